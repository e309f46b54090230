/-
  The document's Flush and Crash by their contracts.
-/
import Derived.Test.YtecljiefljgfmaaRun07
import Derived.Test.YtecljiefljgfmaaRun02
namespace Go.Proofs.Ytecljiefljgfmaa
open Go.RowKit

theorem RV.setL {w w' : World} {d gl n cl i : Nat} {wv : Value} {M : R} {b : ByteArray} (h : RV w d (.slice (some ⟨gl, 0, none⟩) n cl) wv M) (hn : M.L.length = n) (hw : ∀ k, k < w.heap.size → w'.heap[k]? = (w.setCell ⟨gl, i, none⟩ (.string b)).heap[k]?) : RV w' d (.slice (some ⟨gl, 0, none⟩) n cl) wv { M with L := M.L.set i b } := by
  subst hn
  have dl := h.dl gl rfl
  have lt : ∀ k, k ≠ gl → k < w.heap.size → w'.heap[k]? = w.heap[k]? := fun k hk hlt => (hw k hlt).trans (Below.heap_setCell _ _ _ _ hk)
  have kd : d < w.heap.size := (Array.getElem?_eq_some_iff.1 h.blk).1
  refine ⟨(lt d dl.1.symm kd).trans h.blk, ?_, ?_, h.dl, h.dw⟩
  · have o := owns_set h.lr i (.string b)
    rw [← scs_set] at o
    show w'.ownsRow 0 9 1 _ (M.L.set i b).length (scs (M.L.set i b))
    rw [List.length_set]
    refine owns_other o fun j hj => ?_
    obtain rfl : gl = j := by simpa [Value.ownBlock] using hj
    exact hw gl (World.ownsRow.lt h.lr gl rfl).2
  · exact owns_other h.wr fun j hj => lt j (fun e => dl.2 (by rw [hj, e])) (World.ownsRow.lt h.wr j hj).2

/-- What is left when all has been laid: the row of waiting writes is gone. -/
theorem RV.done {w w' : World} {F : Nat → Prop} {d : Nat} {lv wv : Value} {M : R} {f' : Int} {b' : Bool} (h : RV w d lv wv M) (hF : ∀ k, RFoot d lv wv k → F k) (hl : ∀ k, F k → k < w.heap.size) (hs : w.heap.size ≤ w'.heap.size) (hb : w'.heap[d]? = some (.cells #[lv, .slice none 0 0, .int .i64 f', .bool b'] 49 (0, 0))) (ho : ∀ k, k ≠ d → w'.heap[k]? = w.heap[k]?)
    (hok : ({ L := M.L, W := [], f := f', dead := b' } : R).Ok) : RDev w' F d { L := M.L, W := [], f := f', dead := b' } := by
  refine ⟨hok, fun k hk => Nat.lt_of_lt_of_le (hl k hk) hs, lv, .slice none 0 0, ⟨hb, owns_other h.lr fun j hj => ho j (h.dl j hj).1, World.ownsRow_nil _ 0 106 2, fun g hg => ⟨(h.dl g hg).1, by simp [Value.ownBlock]⟩, fun g hg => by simp [Value.ownBlock] at hg⟩, ?_⟩
  intro k hk
  rcases hk with hk | hk | hk
  · exact hF k (.inl hk)
  · exact hF k (.inr (.inl hk))
  · simp [Value.ownBlock] at hk

set_option maxHeartbeats 4000000 in
theorem refflush_go (d : Nat) (w : World) (F : Nat → Prop) (M : R) (h : RDev w F d M) (hs : M.dead = false) (h0 : M.burn.1 = 0) (hC : M.W.length ≤ 100000) :
    Calls Try.prog 52 #[.pointer (some ⟨d, 0, none⟩)] w fun e w' => e = .returned (.int .i64 0) ∧ RDev w' F d { M.burn.2 with L := app M.L M.W, W := [] } ∧ Turn F w w' := by
  have hburn := refburn_any d w F M h
  rw [h0] at hburn
  obtain ⟨e1, e2⟩ := M.burn_L
  obtain ⟨gl0, cl0, ca0, cc0, hV0, _⟩ := h.open
  have c3 := cell_blk hV0.blk 3
  simp only [List.getElem?_toArray] at c3
  rw [hs] at c3
  rw [← e2, ← e1]
  rw [← e2] at hC
  obtain ⟨N, hN⟩ : ∃ N, N = M.burn.2 := ⟨_, rfl⟩
  rw [← hN] at hburn hC ⊢
  clear hN e1 e2 h h0 hV0 hs
  go_enter Try.func52, Try.ntmps52
  go_wp2_with fail
  refine hburn.mono ?_
  rintro e w1 ⟨rfl, hD, hT⟩
  clear hburn c3
  have hok := hD.1
  obtain ⟨gl, cl, ca, cc, hV, hF, hcl⟩ := hD.open
  have HT : Hid (Turn F w w1) := hT
  have HD : Hid (RDev w1 F d N) := hD
  have HV := (show Hid (RV w1 d (.slice (some ⟨gl, 0, none⟩) N.L.length cl) (.slice ca N.W.length cc) N) from hV)
  have HF := (show Hid _ from hF)
  clear hT hD hV hF
  go_wp2
  go_loopw [4] (fun i wr => ∃ k : Nat, k ≤ N.W.length ∧ i = .int .i64 k ∧ RV wr d (.slice (some ⟨gl, 0, none⟩) N.L.length cl) (.slice ca N.W.length cc) { N with L := app N.L (N.W.take k) } ∧ Turn F w1 wr)
    (fun i _ => N.W.length - (intOf i).toNat)
  case atStart => exact ⟨0, Nat.zero_le _, rfl, HV.out, Turn.refl _ _⟩
  case round =>
    obtain ⟨k, hk, rfl, hV, hT⟩ := hrel
    have b1 := cell_blk hV.blk 1
    simp only [List.getElem?_toArray] at b1
    by_cases hlt : k < N.W.length
    · obtain ⟨gc, cc', hce, hcc, _, _⟩ := owns_head hV.wr (by show 0 < N.W.length; omega)
      simp only [Value.slice.injEq] at hce
      obtain ⟨rfl, _, rfl⟩ := hce
      have ha := owns_cell hV.wr (ccs_get hlt).1
      have hb := owns_cell hV.wr (ccs_get hlt).2
      obtain ⟨s, b, hp⟩ : ∃ s b, N.W[k] = (s, b) := ⟨_, _, rfl⟩
      simp only [hp] at ha hb
      have hlL : (app N.L (N.W.take k)).length = N.L.length := app_length _ _
      have hsec : s < N.L.length := hok.sec (s, b) (by rw [← hp]; exact List.getElem_mem _)
      have hlr := hV.lr
      simp only [hlL] at hlr
      obtain ⟨ot, hl⟩ : ∃ ot, wr.cell? ⟨gl, s, none⟩ = some (.string ot) := ⟨_, owns_cell hlr (scs_get (l := app N.L (N.W.take k)) (j := s) (by rw [hlL]; exact hsec))⟩
      have hfl := owns_frozen hlr s
      have b0 := cell_blk hV.blk 0
      simp only [List.getElem?_toArray] at b0
      have hki : (k : Int) < (N.W.length : Int) := by omega
      have hpi : (s : Int) < (N.L.length : Int) := by omega
      have HV2 := (show Hid (RV wr d (.slice (some ⟨gl, 0, none⟩) N.L.length cl) (.slice (some ⟨gc, 0, none⟩) N.W.length cc) { N with L := app N.L (N.W.take k) }) from hV)
      have HP := (show Hid _ from hp)
      have HT2 : Hid (Turn F w1 wr) := hT
      have HLL := (show Hid ((app N.L (N.W.take k)).length = N.L.length) from hlL)
      clear hV hp hsec hlL hlr HV HD HT hT
      go_wp2
      go_region
      go_wp2
      go_roundw
      case rel =>
        refine ⟨k + 1, by omega, by go_num, ?_, ?_⟩
        · have := RV.setL (w' := (wr.setCell ⟨gl, s, none⟩ (.string b)).drew) (i := s) (b := b) HV2.out HLL.out (fun _ _ => rfl)
          rw [app_take hlt, HP.out]
          exact this
        · exact (HT2.out.setCell (HF.out gl (.inr (.inl rfl))) _).drew
      case measure => simp [intOf]; omega
    · obtain rfl : k = N.W.length := by omega
      have f1 := frozen_blk hV.blk 1
      rw [List.take_length] at hV
      have HV2 := (show Hid (RV wr d (.slice (some ⟨gl, 0, none⟩) N.L.length cl) (.slice ca N.W.length cc) { N with L := app N.L N.W }) from hV)
      have HT2 : Hid (Turn F w1 wr) := hT
      clear hV HV hT
      go_wp2
      go_ret
      refine ⟨rfl, RV.done (M := { N with L := app N.L N.W }) HV2.out HF.out (fun k hk => by have := HD.out.2.1 k hk; have := HT2.out.size; omega) (by simp [World.setCell]) ((set_blk HV2.out.blk 1 _).trans rfl) (fun k hk => Below.heap_setCell _ _ _ _ hk) ⟨?_, ?_, by intro p hp; simp at hp, hok.f0, hok.f1⟩, HT.out.trans' (HT2.out.setCell (HF.out d (.inl rfl)) _)⟩
      · show 0 < (app N.L N.W).length
        rw [app_length]
        exact hok.pos
      · show (app N.L N.W).length ≤ 4096
        rw [app_length]
        exact hok.top

set_option maxHeartbeats 2000000 in
theorem refflush_burnt (d : Nat) (w : World) (F : Nat → Prop) (M : R) (h : RDev w F d M) (hs : M.dead = false) (h50 : M.burn.1 = 50) :
    Calls Try.prog 52 #[.pointer (some ⟨d, 0, none⟩)] w fun e w' => e = .returned (.int .i64 50) ∧ RDev w' F d M.burn.2 ∧ Turn F w w' := by
  have hburn := refburn_any d w F M h
  rw [h50] at hburn
  obtain ⟨gl0, cl0, ca0, cc0, hV0, _⟩ := h.open
  have c3 := cell_blk hV0.blk 3
  simp only [List.getElem?_toArray] at c3
  rw [hs] at c3
  clear h h50 hV0
  go_enter Try.func52, Try.ntmps52
  go_wp2_with fail
  refine hburn.mono ?_
  rintro e w1 ⟨rfl, hD, hT⟩
  go_wp2
  go_ret
  exact ⟨rfl, hD, hT⟩

set_option maxHeartbeats 2000000 in
theorem refflush_dead (d : Nat) (w : World) (F : Nat → Prop) (M : R) (h : RDev w F d M) (hs : M.dead = true) :
    Calls Try.prog 52 #[.pointer (some ⟨d, 0, none⟩)] w fun e w' => e = .returned (.int .i64 50) ∧ w = w' := by
  obtain ⟨gl0, cl0, ca0, cc0, hV0, _⟩ := h.open
  have c3 := cell_blk hV0.blk 3
  simp only [List.getElem?_toArray] at c3
  rw [hs] at c3
  clear h hV0
  go_enter Try.func52, Try.ntmps52
  go_wp2
  go_ret
  exact ⟨rfl, rfl⟩

theorem refflush_any (d : Nat) (w : World) (F : Nat → Prop) (M : R) (h : RDev w F d M) (hC : M.W.length ≤ 100000) :
    Calls Try.prog 52 #[.pointer (some ⟨d, 0, none⟩)] w fun e w' => e = .returned (.int .i64 M.flush.1) ∧ RDev w' F d M.flush.2 ∧ Turn F w w' := by
  by_cases hd : M.dead = true
  · have e : M.flush = (50, M) := by rw [R.flush, if_pos hd]
    rw [e]
    refine (refflush_dead d w F M h hd).mono ?_
    rintro e w1 ⟨rfl, rfl⟩
    exact ⟨rfl, h, Turn.refl _ _⟩
  · have hdf : M.dead = false := by simpa using hd
    rcases M.burn_two with h0 | h50
    · have e : M.flush = (0, { M.burn.2 with L := app M.L M.W, W := [] }) := by rw [R.flush, if_neg hd, if_neg (by omega)]
      rw [e]
      exact refflush_go d w F M h hdf h0 hC
    · have e : M.flush = M.burn := by rw [R.flush, if_neg hd, if_pos (by omega)]
      rw [e, h50]
      exact refflush_burnt d w F M h hdf h50

set_option maxHeartbeats 4000000 in
theorem refcrash_any (d : Nat) (a : Option Addr) (keep : List Bool) (cap : Nat) (w : World) (F : Nat → Prop) (M : R) (h : RDev w F d M) (hb : Bools w a keep) (hab : 0 < keep.length → ∀ ad, a = some ad → ¬ F ad.block) (hC : M.W.length ≤ 100000) :
    Calls Try.prog 24 #[.pointer (some ⟨d, 0, none⟩), .slice a keep.length cap] w fun e w' => e = .returned (.tuple #[]) ∧ RDev w' F d (M.crash keep) ∧ Turn F w w' := by
  have hok := h.1
  obtain ⟨gl, cl, ca, cc, hV, hF, hcl⟩ := h.open
  have HD : Hid (RDev w F d M) := h
  have HV := (show Hid (RV w d (.slice (some ⟨gl, 0, none⟩) M.L.length cl) (.slice ca M.W.length cc) M) from hV)
  have HF := (show Hid _ from hF)
  have HB : Hid (Bools w a keep) := hb
  have HAB := (show Hid (0 < keep.length → ∀ ad, a = some ad → ¬ F ad.block) from hab)
  clear h hV hF hb hab
  go_enter Try.func24, Try.ntmps24
  go_wp2
  go_loopw [4] (fun i wr => ∃ k : Nat, k ≤ M.W.length ∧ i = .int .i64 k ∧ RV wr d (.slice (some ⟨gl, 0, none⟩) M.L.length cl) (.slice ca M.W.length cc) { M with L := app M.L (kept keep (M.W.take k)) } ∧ Turn F w wr)
    (fun i _ => M.W.length - (intOf i).toNat)
  case atStart => exact ⟨0, Nat.zero_le _, rfl, HV.out, Turn.refl _ _⟩
  case round =>
    obtain ⟨k, hk, rfl, hV, hT⟩ := hrel
    have b1 := cell_blk hV.blk 1
    simp only [List.getElem?_toArray] at b1
    by_cases hlt : k < M.W.length
    · obtain ⟨gc, cc', hce, hcc, _, _⟩ := owns_head hV.wr (by show 0 < M.W.length; omega)
      simp only [Value.slice.injEq] at hce
      obtain ⟨rfl, _, rfl⟩ := hce
      have ha := owns_cell hV.wr (ccs_get hlt).1
      have hb := owns_cell hV.wr (ccs_get hlt).2
      obtain ⟨s, b, hp⟩ : ∃ s b, M.W[k] = (s, b) := ⟨_, _, rfl⟩
      simp only [hp] at ha hb
      have hlL : (app M.L (kept keep (M.W.take k))).length = M.L.length := app_length _ _
      have hsec : s < M.L.length := hok.sec (s, b) (by rw [← hp]; exact List.getElem_mem _)
      have hlr := hV.lr
      simp only [hlL] at hlr
      obtain ⟨ot, hl⟩ : ∃ ot, wr.cell? ⟨gl, s, none⟩ = some (.string ot) := ⟨_, owns_cell hlr (scs_get (l := app M.L (kept keep (M.W.take k))) (j := s) (by rw [hlL]; exact hsec))⟩
      have hfl := owns_frozen hlr s
      have b0 := cell_blk hV.blk 0
      simp only [List.getElem?_toArray] at b0
      have hki : (k : Int) < (M.W.length : Int) := by omega
      have hpi : (s : Int) < (M.L.length : Int) := by omega
      have hbk : Bools wr a keep := by
        rcases Nat.eq_zero_or_pos keep.length with h0 | h0
        · exact .inl (List.eq_nil_of_length_eq_zero h0)
        · exact HB.out.turn hT (HAB.out h0)
      have HV2 := (show Hid (RV wr d (.slice (some ⟨gl, 0, none⟩) M.L.length cl) (.slice (some ⟨gc, 0, none⟩) M.W.length cc) { M with L := app M.L (kept keep (M.W.take k)) }) from hV)
      have HP := (show Hid _ from hp)
      have HT : Hid (Turn F w wr) := hT
      have HLL := (show Hid ((app M.L (kept keep (M.W.take k))).length = M.L.length) from hlL)
      clear hV hp hsec hlL hlr HV HD hT HB HAB
      by_cases hkk : k < keep.length
      · rcases hbk with rfl | ⟨kb, ko, rfl, hkb, hkc⟩
        · simp at hkk
        · have hkcell := hkc k hkk
          have hkki : (k : Int) < (keep.length : Int) := by omega
          have hkd : keep.getD k false = keep[k] := by simp [List.getD, hkk]
          cases hbv : keep[k] with
          | true =>
            rw [hbv] at hkd hkcell
            have HKD := (show Hid _ from hkd)
            clear hkd hkc hbv hkb
            go_wp2
            clear hkcell
            go_region
            go_wp2
            go_roundw
            case rel =>
              refine ⟨k + 1, by omega, by go_num, ?_, ?_⟩
              · have := RV.setL (w' := (wr.setCell ⟨gl, s, none⟩ (.string b)).drew) (i := s) (b := b) HV2.out HLL.out (fun _ _ => rfl)
                rw [kept_take_yes hlt HKD.out, app_snoc, HP.out]
                exact this
              · exact (HT.out.setCell (HF.out gl (.inr (.inl rfl))) _).drew
            case measure => simp [intOf]; omega
          | false =>
            rw [hbv] at hkd hkcell
            have HKD := (show Hid _ from hkd)
            clear hkd hkc hbv hkb
            go_wp2
            go_roundw
            case rel =>
              refine ⟨k + 1, by omega, by go_num, ?_, HT.out⟩
              rw [kept_take_no hlt HKD.out]
              exact HV2.out
            case measure => simp [intOf]; omega
      · have hkki : ¬ (k : Int) < (keep.length : Int) := by omega
        have hkd : keep.getD k false = false := by
          rw [List.getD, List.getElem?_eq_none (by omega)]
          rfl
        have HKD := (show Hid _ from hkd)
        clear hkd hbk
        go_wp2
        go_roundw
        case rel =>
          refine ⟨k + 1, by omega, by go_num, ?_, HT.out⟩
          rw [kept_take_no hlt HKD.out]
          exact HV2.out
        case measure => simp [intOf]; omega
    · obtain rfl : k = M.W.length := by omega
      rw [List.take_length] at hV
      have b2 := cell_blk hV.blk 2
      have b3 := cell_blk hV.blk 3
      have f1 := frozen_blk hV.blk 1
      have f2 := frozen_blk hV.blk 2
      have f3 := frozen_blk hV.blk 3
      simp only [List.getElem?_toArray] at b2 b3
      have HV2 := (show Hid (RV wr d (.slice (some ⟨gl, 0, none⟩) M.L.length cl) (.slice ca M.W.length cc) { M with L := app M.L (kept keep M.W) }) from hV)
      have HT : Hid (Turn F w wr) := hT
      clear hV HV HB HAB hT
      go_wp2
      refine bodyPost_end (results_none rfl _ _ _) rfl ?_
      have hFd := HF.out d (.inl rfl)
      refine ⟨rfl, RV.done (M := { M with L := app M.L (kept keep M.W) }) HV2.out HF.out (fun k hk => by have := HD.out.2.1 k hk; have := HT.out.size; omega) (by simp [World.setCell]) ((set_blk (set_blk (set_blk HV2.out.blk 1 _) 3 _) 2 _).trans rfl) (fun k hk => by rw [Below.heap_setCell _ _ _ _ hk, Below.heap_setCell _ _ _ _ hk, Below.heap_setCell _ _ _ _ hk]) (hok.crash keep), ((HT.out.setCell hFd _).setCell hFd _).setCell hFd _⟩
end Go.Proofs.Ytecljiefljgfmaa

/-
  DiskLasts: the walk.
-/
import Derived.Test.YthmjejmkkllbaaaLastsMath
import Derived.Test.YthmjejmkkllbaaaOpen
import Derived.Deep.CutRange
import Derived.Deep.RegionWith
import Derived.BigRegion
import Derived.Deep.DeepCutAuto
namespace Go.Proofs.Ythmjejmkkllbaaa
open Go.RowKit

theorem Ints.at {w : World} {a : Option Addr} {l : List Int} (h : Ints w a l) {k : Nat} (hk : k < l.length) : ∃ b off, a = some ⟨b, off, none⟩ ∧ b < w.heap.size ∧ ∀ j (h : j < l.length), w.cell? ⟨b, off + j, none⟩ = some (.int .i64 l[j]) := by
  rcases h with rfl | h
  · simp at hk
  · exact h

theorem str_eq (x y : ByteArray) : (x.toList == y.toList) = decide (x = y) := by
  rw [ByteArray.toList_eq, ByteArray.toList_eq, Bool.eq_iff_iff]
  simp only [beq_iff_eq, decide_eq_true_eq]
  constructor
  · intro h
    cases x; cases y
    simpa using h
  · intro h; rw [h]
/-- A stronger condition may be taken up in the midst of a region. -/
theorem wpAnyH_stronger {P : Program} {md : Region.Mode} {ops : Array Oper} {Q : Exit → Act → World → Prop} {S S' : World → Prop} (hS : ∀ w, S' w → S w) : ∀ (fuel : Nat) (listed : Array Bool) (a : Act) (w : World), wpAnyH P md ops Q S' fuel listed a w → wpAnyH P md ops Q S fuel listed a w
  | 0, _, _, _, h => h
  | fuel + 1, _, _, _, h => ⟨h.1, fun i hi => wpOp_mono (fun a' w' h' => ⟨hS w' h'.1, wpAnyH_stronger hS fuel _ a' w' h'.2⟩) (h.2 i hi)⟩
/-- The block of 'last'. -/
def Lst (w : World) (X : Nat) (A : List Nat) : Prop := w.heap[X]? = some (.cells (A.map fun (j : Nat) => Value.int .i64 (j : Int)).toArray 55 (0, 0))
theorem Lst.cell {w : World} {X : Nat} {A : List Nat} (h : Lst w X A) {s : Nat} (hs : s < A.length) : w.cell? ⟨X, s, none⟩ = some (.int .i64 (A[s] : Int)) := by
  have := cell_blk h s
  rw [this]
  simp [List.getElem?_eq_getElem hs]
theorem Lst.set {w : World} {X : Nat} {A : List Nat} (h : Lst w X A) (s v : Nat) : Lst (w.setCell ⟨X, s, none⟩ (.int .i64 (v : Int))) X (A.set s v) := by
  have := set_blk h s (.int .i64 (v : Int))
  rw [Lst, this]
  simp [List.map_set]

set_option maxHeartbeats 8000000 in
set_option maxRecDepth 20000 in
theorem lasts_walk (a0 a1 a2 : Option Addr) (l0 l1 : List Int) (l2 : List Bool) (cap0 cap1 cap2 : Nat) (w : World) (hb0 : Ints w a0 l0) (hb1 : Ints w a1 l1) (hb2 : Bools w a2 l2) :
    Calls Try.prog 5 #[.slice a0 l0.length cap0, .slice a1 l1.length cap1, .slice a2 l2.length cap2] w fun e w' => e = .returned (.bool true) ∧ Below w.heap.size w w' := by
  have hnew := dl_new w
  obtain ⟨i0, hi, hz0, hz1, hz2⟩ := info_parts info5
  have hm : i0.bytes * 256 ≤ 281474976710656 := by rw [hz2]; omega
  have H0 : Hid (Ints w a0 l0) := hb0
  have H1 : Hid (Ints w a1 l1) := hb1
  have H2 : Hid (Bools w a2 l2) := hb2
  clear hb0 hb1 hb2
  go_enter Try.func5, Try.ntmps5
  go_wp2_with fail
  refine Calls.mono hnew ?_
  rintro e w1 ⟨d, rfl, hI1⟩
  clear hnew
  have HI1 : Hid (DL w w1 d (fun _ => False) (D.new 8 blank)) := hI1
  have hsz1 := hI1.old.size
  clear hI1
  go_wp2
  go_loopw [10] (fun i wr => ∃ k : Nat, k ≤ l0.length ∧ k ≤ 40 ∧ i = .int .i64 k ∧ Lst wr w1.heap.size (lastF l0 k) ∧ DL w wr d (fun j => j = w1.heap.size) (MW (List.replicate 8 blank) (cf 1 1 l0 k)))
    (fun i _ => 40 - (intOf i).toNat)
  case atStart =>
    refine ⟨0, Nat.zero_le _, by omega, rfl, heap_alloc_new w1 _, ?_⟩
    have := HI1.out.wider (w2 := w1.alloc (.cells ((lastF l0 0).map fun (j : Nat) => Value.int .i64 (j : Int)).toArray 55)) ((Below.refl _ _).alloc (Nat.le_refl _) _) (Nat.le_refl _) (by simp)
    exact this
  case round =>
    obtain ⟨k, hk, hk40, rfl, hL, hI⟩ := hrel
    clear HI1
    by_cases hlt : k < l0.length ∧ k < 40
    · obtain ⟨hlt, h40⟩ := hlt
      obtain ⟨b, off, rfl, hbl, hcs⟩ := H0.out.at hlt
      have hcw : w.cell? ⟨b, off + k, none⟩ = some (.int .i64 l0[k]) := hcs k hlt
      have hcell : wr.cell? ⟨b, off + k, none⟩ = some (.int .i64 l0[k]) := (hI.old.cell (p := ⟨b, off + k, none⟩) hbl).trans hcw
      have hgD : l0.getD k 0 = l0[k] := by simp [List.getD, hlt]
      obtain ⟨v, hv⟩ : ∃ v, v = l0[k] := ⟨_, rfl⟩
      rw [← hv] at hcell hgD
      have hki : (k : Int) < (l0.length : Int) := by omega
      have h40i : (k : Int) < 40 := by omega
      have hse := sector_any 1 ((k : Int) + 1) wr.drew
      have HSE := (show Hid _ from hse)
      have HI : Hid (DL w wr d (fun j => j = w1.heap.size) (MW (List.replicate 8 blank) (cf 1 1 l0 k))) := hI
      have HL : Hid (Lst wr w1.heap.size (lastF l0 k)) := hL
      have HG := (show Hid (l0.getD k 0 = v) from hgD)
      have HBL : Hid (b < w.heap.size) := hbl
      have hsz := hI.old.size
      obtain ⟨m8, hm8e⟩ : ∃ m8 : Nat, v % 8 = (m8 : Int) := ⟨(v % 8).toNat, by omega⟩
      have hm8 : m8 < 8 := by omega
      have HM : Hid ((v % 8).toNat = m8) := (by omega : (v % 8).toNat = m8)
      have HM2 : Hid (v % 8 = (m8 : Int)) := hm8e
      have ha7 := and7 v
      rw [hm8e] at ha7
      clear hm8e hse hI hL hgD hcs hcw hv hbl
      have hwf : ∀ w2 : World, w2.ownsRow wr.heap.size 5 1 (.slice (some ⟨wr.heap.size, 0, none⟩) 256 256) 256 (bcs (sec 1 ((k : Int) + 1))) → Below wr.heap.size wr.drew w2 → w2.cell? ⟨b, off + k, none⟩ = some (.int .i64 v) ∧ Calls Try.prog 11 #[.pointer (some ⟨d, 0, none⟩), .int .i64 (m8 : Int), .slice (some ⟨wr.heap.size, 0, none⟩) 256 256] w2 fun e w' => e = .returned (.int .i64 0) ∧ w'.cell? ⟨b, off + k, none⟩ = some (.int .i64 v) ∧ DL w w' d (fun j => j = w1.heap.size) (MW (List.replicate 8 blank) (cf 1 1 l0 (k + 1))) ∧ Lst w' w1.heap.size (lastF l0 k) := by
        intro w2 ho hb
        have hb' : Below wr.heap.size wr w2 := ⟨hb.os, hb.tape, hb.output, hb.size, hb.block⟩
        have hbl := HBL.out
        refine ⟨(hb'.cell (p := ⟨b, off + k, none⟩) (by show b < _; omega)).trans hcell, ?_⟩
        have hd := dl_write (v % 8) (cap := 256) HI.out (sec_length 1 ((k : Int) + 1)) hb' (Nat.le_refl _) (own_bytes ho) (by show (cf 1 1 l0 k).length ≤ _; rw [cf_length]; omega)
        rw [show (⟨(sec 1 ((k : Int) + 1)).toArray⟩ : ByteArray) = secT 1 ((k : Int) + 1) from rfl, MW_wr _ (by rw [List.length_replicate])] at hd
        rw [HM2.out] at hd
        refine hd.mono ?_
        rintro e w' ⟨rfl, q1, q2⟩
        refine ⟨rfl, ?_, ?_, ?_⟩
        · exact (q1.old.cell (p := ⟨b, off + k, none⟩) hbl).trans ((HI.out.old.cell (p := ⟨b, off + k, none⟩) hbl).symm.trans hcell)
        · rw [cf_succ, HG.out, HM2.out]
          exact q1
        · exact (q2 w1.heap.size rfl).trans HL.out
      have HWF := (show Hid _ from hwf)
      have hwrap : IntKind.i64.wrap ((k : Int) + 1) = (k : Int) + 1 := by rw [IntKind.wrap_i64]; omega
      clear hwf
      go_wp2
      go_region_held3 (fun w' => w'.cell? ⟨b, off + k, none⟩ = some (.int .i64 v)) (go_keep)
        (first
          | (go_at_call 12; refine Calls.mono HSE.out ?_; rintro e w2 ⟨rfl, ho2, hb2⟩; have s0 : w2.cell? ⟨b, off + k, none⟩ = some (.int .i64 v) := (HWF.out w2 ho2 hb2).1; have hwc := (HWF.out w2 ho2 hb2).2; clear ho2 hb2)
          | (go_at_call 11; refine Calls.mono hwc ?_; rintro e w3 ⟨rfl, s0', hI3, hL3⟩))
      have hx0 := hL3.cell (by rw [lastF_length]; exact hm8 : m8 < (lastF l0 k).length)
      have hx1 := frozen_blk hL3 m8
      have HI3 : Hid (DL w w3 d (fun j => j = w1.heap.size) (MW (List.replicate 8 blank) (cf 1 1 l0 (k + 1)))) := hI3
      have HL3 : Hid (Lst w3 w1.heap.size (lastF l0 k)) := hL3
      have hm8i : (m8 : Int) < 8 := by omega
      clear hwc hI3 hL3 HWF HSE
      go_wp2
      go_roundw
      case rel =>
        refine ⟨k + 1, by omega, by omega, by go_num, ?_, ?_⟩
        · rw [lastF, HG.out, HM.out]
          exact HL3.out.set m8 (k + 1)
        · exact HI3.out.turn ((Turn.refl (fun j => j = w1.heap.size) w3).setCell (by rfl) _) (fun j hj => by rw [hj]; exact hsz1)
      case measure => simp [intOf]; omega
    · obtain ⟨n1, hn1⟩ : ∃ n1, n1 = k := ⟨_, rfl⟩
      have HI : Hid (DL w wr d (fun j => j = w1.heap.size) (MW (List.replicate 8 blank) (cf 1 1 l0 k))) := hI
      have HL : Hid (Lst wr w1.heap.size (lastF l0 k)) := hL
      have HLT := (show Hid (¬ (k < l0.length ∧ k < 40)) from hlt)
      have hk0 : (k : Int) ≤ 40 := by omega
      clear hI hL hlt
      go_upto_region 6 with fail
      go_cut [35] (fun s w' => s = .bool false ∧ w' = wr)
      case first =>
        by_cases hc : k < l0.length
        · have hc1 : (k : Int) < (l0.length : Int) := by omega
          have hc2 : ¬ (k : Int) < 40 := by have := HLT.out; omega
          go_wp2
          go_meet
          case rel => exact ⟨rfl, rfl⟩
        · have hc1 : ¬ (k : Int) < (l0.length : Int) := by omega
          go_wp2
          go_meet
          case rel => exact ⟨rfl, rfl⟩
      case rest =>
        obtain ⟨rfl, rfl⟩ := hcut
        have hfl := dl_flush HI.out (by show (cf 1 1 l0 k).length ≤ _; rw [cf_length]; omega)
        rw [MW_flush, app_last] at hfl
        have hA8 := lastF_length l0 k
        have hA40 := lastF_le l0 k
        obtain ⟨A, hA⟩ : ∃ A, A = lastF l0 k := ⟨_, rfl⟩
        rw [← hA] at hfl HL hA8 hA40
        have HA := (show Hid (A = lastF l0 k) from hA)
        have HA40 := (show Hid (∀ x ∈ A, x ≤ k) from hA40)
        clear hA hA40 H0
        go_wp2_with fail
        refine Calls.mono hfl ?_
        rintro e w3 ⟨rfl, hI3, hL3⟩
        have HI3 : Hid (DL w w3 d (fun j => j = w1.heap.size) (MW (A.map oldOf) [])) := hI3
        have HL3 : Hid (Lst w3 w1.heap.size A) := (hL3 _ rfl).trans HL.out
        clear hI3 hL3 HI HL hfl
        go_wp2
        go_loopw [11] (fun i wr => ∃ k : Nat, k ≤ l1.length ∧ k ≤ 40 ∧ i = .int .i64 k ∧ Lst wr w1.heap.size A ∧ DL w wr d (fun j => j = w1.heap.size) (MW (A.map oldOf) (cf 2 0 l1 k)))
          (fun i _ => 40 - (intOf i).toNat)
        case atStart => exact ⟨0, Nat.zero_le _, by omega, rfl, HL3.out, HI3.out⟩
        case round =>
          clear HI3 HL3
          obtain ⟨k2, hk2, hk240, rfl, hL, hI⟩ := hrel
          by_cases hlt : k2 < l1.length ∧ k2 < 40
          · obtain ⟨hlt, h40⟩ := hlt
            obtain ⟨b, off, rfl, hbl, hcs⟩ := H1.out.at hlt
            have hcw : w.cell? ⟨b, off + k2, none⟩ = some (.int .i64 l1[k2]) := hcs k2 hlt
            have hcell : wr.cell? ⟨b, off + k2, none⟩ = some (.int .i64 l1[k2]) := (hI.old.cell (p := ⟨b, off + k2, none⟩) hbl).trans hcw
            have hgD : l1.getD k2 0 = l1[k2] := by simp [List.getD, hlt]
            obtain ⟨v, hv⟩ : ∃ v, v = l1[k2] := ⟨_, rfl⟩
            rw [← hv] at hcell hgD
            have hki : (k2 : Int) < (l1.length : Int) := by omega
            have h40i : (k2 : Int) < 40 := by omega
            have hse := sector_any 2 (k2 : Int) wr.drew
            have HSE := (show Hid _ from hse)
            have HI : Hid (DL w wr d (fun j => j = w1.heap.size) (MW (A.map oldOf) (cf 2 0 l1 k2))) := hI
            have HL : Hid (Lst wr w1.heap.size A) := hL
            have HG := (show Hid (l1.getD k2 0 = v) from hgD)
            have HBL : Hid (b < w.heap.size) := hbl
            have hsz := hI.old.size
            obtain ⟨m8, hm8e⟩ : ∃ m8 : Nat, v % 8 = (m8 : Int) := ⟨(v % 8).toNat, by omega⟩
            have HM2 : Hid (v % 8 = (m8 : Int)) := hm8e
            have ha7 := and7 v
            rw [hm8e] at ha7
            clear hm8e hse hI hL hgD hcs hcw hv hbl
            have hwf : ∀ w2 : World, w2.ownsRow wr.heap.size 5 1 (.slice (some ⟨wr.heap.size, 0, none⟩) 256 256) 256 (bcs (sec 2 (k2 : Int))) → Below wr.heap.size wr.drew w2 → w2.cell? ⟨b, off + k2, none⟩ = some (.int .i64 v) ∧ Calls Try.prog 11 #[.pointer (some ⟨d, 0, none⟩), .int .i64 (m8 : Int), .slice (some ⟨wr.heap.size, 0, none⟩) 256 256] w2 fun e w' => e = .returned (.int .i64 0) ∧ w'.cell? ⟨b, off + k2, none⟩ = some (.int .i64 v) ∧ DL w w' d (fun j => j = w1.heap.size) (MW (A.map oldOf) (cf 2 0 l1 (k2 + 1))) ∧ Lst w' w1.heap.size A := by
              intro w2 ho hb
              have hb' : Below wr.heap.size wr w2 := ⟨hb.os, hb.tape, hb.output, hb.size, hb.block⟩
              have hbl := HBL.out
              refine ⟨(hb'.cell (p := ⟨b, off + k2, none⟩) (by show b < _; omega)).trans hcell, ?_⟩
              have hd := dl_write (v % 8) (cap := 256) HI.out (sec_length 2 (k2 : Int)) hb' (Nat.le_refl _) (own_bytes ho) (by show (cf 2 0 l1 k2).length ≤ _; rw [cf_length]; omega)
              rw [show (⟨(sec 2 (k2 : Int)).toArray⟩ : ByteArray) = secT 2 (k2 : Int) from rfl, MW_wr _ (by rw [List.length_map]; exact hA8)] at hd
              rw [HM2.out] at hd
              refine hd.mono ?_
              rintro e w' ⟨rfl, q1, q2⟩
              refine ⟨rfl, ?_, ?_, ?_⟩
              · exact (q1.old.cell (p := ⟨b, off + k2, none⟩) hbl).trans ((HI.out.old.cell (p := ⟨b, off + k2, none⟩) hbl).symm.trans hcell)
              · rw [cf_succ, HG.out, HM2.out, Int.add_zero]
                exact q1
              · exact (q2 w1.heap.size rfl).trans HL.out
            have HWF := (show Hid _ from hwf)
            clear hwf
            go_wp2
            go_region_held3 (fun w' => w'.cell? ⟨b, off + k2, none⟩ = some (.int .i64 v)) (go_keep)
              (first
                | (go_at_call 12; refine Calls.mono HSE.out ?_; rintro e w2 ⟨rfl, ho2, hb2⟩; have s0 : w2.cell? ⟨b, off + k2, none⟩ = some (.int .i64 v) := (HWF.out w2 ho2 hb2).1; have hwc := (HWF.out w2 ho2 hb2).2; clear ho2 hb2)
                | (go_at_call 11; refine Calls.mono hwc ?_; rintro e w3 ⟨rfl, s0', hI3, hL3⟩))
            have HX : Hid (DL w w3 d (fun j => j = w1.heap.size) (MW (A.map oldOf) (cf 2 0 l1 (k2 + 1))) ∧ Lst w3 w1.heap.size A) := ⟨hI3, hL3⟩
            clear hwc hI3 hL3 HWF HSE
            go_wp2
            go_roundw
            case rel => exact ⟨k2 + 1, by omega, by omega, by go_num, HX.out.2, HX.out.1⟩
            case measure => simp [intOf]; omega
          · have HI : Hid (DL w wr d (fun j => j = w1.heap.size) (MW (A.map oldOf) (cf 2 0 l1 k2))) := hI
            have HL : Hid (Lst wr w1.heap.size A) := hL
            have HLT2 := (show Hid (¬ (k2 < l1.length ∧ k2 < 40)) from hlt)
            clear hI hL hlt
            go_upto_region 13 with fail
            go_cut [66] (fun s w' => s = .bool false ∧ w' = wr)
            case first =>
              by_cases hc : k2 < l1.length
              · have hc1 : (k2 : Int) < (l1.length : Int) := by omega
                have hc2 : ¬ (k2 : Int) < 40 := by have := HLT2.out; omega
                go_wp2
                go_meet
                case rel => exact ⟨rfl, rfl⟩
              · have hc1 : ¬ (k2 : Int) < (l1.length : Int) := by omega
                go_wp2
                go_meet
                case rel => exact ⟨rfl, rfl⟩
            case rest =>
              obtain ⟨rfl, rfl⟩ := hcut
              have hcr := dl_crash (cap := cap2) HI.out H2.out (by show (cf 2 0 l1 k2).length ≤ _; rw [cf_length]; omega)
              rw [MW_crash] at hcr
              go_wp2_with fail
              refine Calls.mono hcr ?_
              rintro e w4 ⟨rfl, hI4, hL4⟩
              obtain ⟨X8, hX8⟩ : ∃ X8, X8 = app (A.map oldOf) (kept l2 (cf 2 0 l1 k2)) := ⟨_, rfl⟩
              rw [← hX8] at hI4
              have hX8l : X8.length = 8 := by rw [hX8, app_length, List.length_map]; exact hA8
              have HX8 := (show Hid (X8 = app (A.map oldOf) (kept l2 (cf 2 0 l1 k2))) from hX8)
              have HI4 : Hid (DL w w4 d (fun j => j = w1.heap.size) (MW X8 [])) := hI4
              have HL4 : Hid (Lst w4 w1.heap.size A) := (hL4 _ rfl).trans HL.out
              clear hI4 hL4 HI HL hcr hX8
              go_wp2
              go_loopw [12] (fun i wr => ∃ s : Nat, s ≤ 8 ∧ i = .int .i64 s ∧ Lst wr w1.heap.size A ∧ DL w wr d (fun j => j = w1.heap.size) (MW X8 []))
                (fun i _ => 8 - (intOf i).toNat)
              case atStart => exact ⟨0, Nat.zero_le _, rfl, HL4.out, HI4.out⟩
              case round =>
                clear HI4 HL4
                obtain ⟨s, hs8, rfl, hL, hI⟩ := hrel
                by_cases hlt : s < 8
                · have hsi : (s : Int) < 8 := by omega
                  have hrd := dl_read s hI (by show (0 : Nat) ≠ 2; omega) (by show s < X8.length; omega)
                  obtain ⟨x, hx⟩ : ∃ x, x = X8[s]'(by omega) := ⟨_, rfl⟩
                  rw [show (MW X8 []).S[s]'(by show s < X8.length; omega) = x from hx.symm] at hrd
                  have hAs : A[s]? = some (A[s]'(by omega)) := List.getElem?_eq_getElem (by omega)
                  obtain ⟨ls, hase⟩ : ∃ ls, ls = A[s]'(by omega) := ⟨_, rfl⟩
                  have hcA : wr.cell? ⟨w1.heap.size, s, none⟩ = some (.int .i64 (ls : Int)) := by rw [hase]; exact hL.cell (by omega)
                  have HAS : Hid (ls = A.getD s 0 ∧ ls ≤ 40) := ⟨by rw [hase, List.getD_eq_getElem?_getD, hAs]; rfl, by have := HA40.out ls (by rw [hase]; exact List.getElem_mem _); omega⟩
                  have HXS : Hid (X8[s]? = some x) := by rw [hx]; exact List.getElem?_eq_getElem (by omega)
                  have HI : Hid (DL w wr d (fun j => j = w1.heap.size) (MW X8 [])) := hI
                  have HL : Hid (Lst wr w1.heap.size A) := hL
                  have HXL : Hid (w1.heap.size < wr.heap.size) := (Array.getElem?_eq_some_iff.1 hL).1
                  have hc40 : (ls : Int) ≤ 40 := by have := HAS.out.2; omega
                  clear hI hL hx hAs hase
                  go_wp2_with fail
                  refine Calls.mono hrd ?_
                  rintro e w5 ⟨gx, cx, rfl, hfx, hgx, hb5⟩
                  clear hrd
                  have hcA5 : w5.cell? ⟨w1.heap.size, s, none⟩ = some (.int .i64 (ls : Int)) := (hb5.cell (p := ⟨w1.heap.size, s, none⟩) HXL.out).trans hcA
                  have hmk : ∀ w6 : World, w5.grownBy w6 none → w6.cell? ⟨w1.heap.size, s, none⟩ = some (.int .i64 (ls : Int)) := fun w6 hg => hg.cell hcA5 (by simp)
                  have HMK := (show Hid _ from hmk)
                  have HFX : Hid (Fresh w5 gx x) := hfx
                  have HB5 : Hid (Below wr.heap.size wr w5) := hb5
                  clear hmk hfx hb5 hcA
                  go_upto_if 97 with (at_make; refine wpList_make_full _ rfl _ _ 31 rfl w5.heap.size 5 i0 (.int .u8 0) 1 Try.underlying31 hi hz0 hz1 _ _ _ _ 256 rfl rfl (by omega) (by omega) hm (by unfold maxLen; omega) (Nat.le_refl _) ?_; intro w6 hown6 hgrow6; rw [made_bytes] at hown6; have hcA6 := HMK.out w6 hgrow6; have HO6 : Hid (w6.ownsRow w5.heap.size 5 1 (.slice (some ⟨w5.heap.size, 0, none⟩) 256 256) 256 (bcs (List.replicate 256 0)) ∧ w5.grownBy w6 none) := ⟨hown6, hgrow6⟩; clear hown6 hgrow6)
                  go_cut [15] (fun v w' => ∃ go lo, v = .slice (some ⟨go, 0, none⟩) 256 256 ∧ Bytes w' (some ⟨go, 0, none⟩) lo ∧ lo.length = 256 ∧ (⟨lo.toArray⟩ : ByteArray) = oldOf ls ∧ Below w5.heap.size w5 w')
                  case first =>
                    have hb6 : Below w5.heap.size w5 w6 := (Below.refl _ _).grown HO6.out.2 (Nat.le_refl _) (by simp)
                    by_cases h0 : ls = 0
                    · have HZ : Hid (ls = 0) := h0
                      have hz : ¬ (0 : Int) < (ls : Int) := by omega
                      clear h0
                      go_wp2
                      go_meet
                      case rel => exact ⟨_, List.replicate 256 0, rfl, own_bytes HO6.out.1, by rw [List.length_replicate], by rw [HZ.out, oldOf, if_pos rfl, blank], hb6⟩
                    · have HZ : Hid (¬ ls = 0) := h0
                      have hz : (0 : Int) < (ls : Int) := by omega
                      have hse := sector_any 1 (ls : Int) w6
                      clear h0
                      go_wp2_with (go_at_call 12; refine Calls.mono hse ?_; rintro e w7 ⟨rfl, ho7, hb7⟩)
                      go_meet
                      case rel => exact ⟨_, sec 1 (ls : Int), rfl, own_bytes ho7, sec_length _ _, by rw [oldOf, if_neg HZ.out, secT], hb6.trans (hb7.mono hb6.size)⟩
                  case rest =>
                    obtain ⟨go, lo, rfl, hbo, hlo, hold, hbw⟩ := hcut
                    have hszw := hbw.size
                    have hfxw : Fresh wc gx x := HFX.out.other hszw (hbw.block gx HFX.out.lt)
                    obtain ⟨old, holde⟩ : ∃ old, old = oldOf ls := ⟨_, rfl⟩
                    have hcx := convert_bytes wc (some ⟨gx, 0, none⟩) cx x.data.toList hfxw.bytes
                    rw [show x.data.toList.length = x.size from by simp, show (⟨x.data.toList.toArray⟩ : ByteArray) = x from by simp] at hcx
                    have hco := convert_bytes wc (some ⟨go, 0, none⟩) 256 lo hbo
                    rw [hlo, hold, ← holde] at hco
                    have HO : Hid (old = oldOf ls) := holde
                    have HFW : Hid (Fresh wc gx x) := hfxw
                    have HBW : Hid (Below w5.heap.size w5 wc) := hbw
                    have HOK0 : Hid (okB x old l1 l2 s 0 = decide (x = old)) := rfl
                    clear hbo hold hfxw holde hbw HMK HO6 hcA5 hcA6 hlo
                    have HIC : Hid (DL w wc d (fun j => j = w1.heap.size) (MW X8 [])) := (HI.out.below HB5.out).below HBW.out
                    have HLC : Hid (Lst wc w1.heap.size A) := (HBW.out.block _ (Nat.lt_of_lt_of_le HXL.out HB5.out.size)).trans ((HB5.out.block _ HXL.out).trans HL.out)
                    clear HI HL HB5 HXL HFX
                    obtain ⟨b0, hb0⟩ : ∃ b0, b0 = okB x old l1 l2 s 0 := ⟨_, rfl⟩
                    have hq0 : (x.toList == old.toList) = b0 := by rw [str_eq, hb0, HOK0.out]
                    have HB0 : Hid (b0 = okB x old l1 l2 s 0) := hb0
                    clear hb0 HOK0
                    go_wp2
                    go_loopw [16, 17] (fun o i wq => ∃ k4 : Nat, k4 ≤ l1.length ∧ k4 ≤ 40 ∧ i = .int .i64 k4 ∧ o = .bool (okB x old l1 l2 s k4) ∧ Below wc.heap.size wc wq)
                      (fun _ i _ => 40 - (intOf i).toNat)
                    case atStart => exact ⟨0, Nat.zero_le _, by omega, rfl, by rw [HB0.out], Below.refl _ _⟩
                    case round =>
                      obtain ⟨k4, hk4, hk440, rfl, rfl, hb4⟩ := hrel
                      clear hq0 hcx hco HB0
                      by_cases hlt4 : k4 < l1.length ∧ k4 < 40
                      · obtain ⟨hlt4, h440⟩ := hlt4
                        obtain ⟨b, off, rfl, hbl, hcs⟩ := H1.out.at hlt4
                        have hcell : wr.cell? ⟨b, off + k4, none⟩ = some (.int .i64 l1[k4]) := (hb4.cell (p := ⟨b, off + k4, none⟩) (Nat.lt_of_lt_of_le hbl HIC.out.old.size)).trans ((HIC.out.old.cell (p := ⟨b, off + k4, none⟩) hbl).trans (hcs k4 hlt4))
                        have hgD : l1.getD k4 0 = l1[k4] := by simp [List.getD, hlt4]
                        obtain ⟨v, hv⟩ : ∃ v, v = l1[k4] := ⟨_, rfl⟩
                        rw [← hv] at hcell hgD
                        have hki : (k4 : Int) < (l1.length : Int) := by omega
                        have h40i : (k4 : Int) < 40 := by omega
                        obtain ⟨m8, hm8e⟩ : ∃ m8 : Nat, v % 8 = (m8 : Int) := ⟨(v % 8).toNat, by omega⟩
                        have ha7 := and7 v
                        rw [hm8e] at ha7
                        have hstep : okB x old l1 l2 s (k4 + 1) = (okB x old l1 l2 s k4 || hitB x l1 l2 s k4) := rfl
                        have hhit : hitB x l1 l2 s k4 = ((decide ((m8 : Int) = (s : Int)) && l2.getD k4 false) && decide (x = secT 2 (k4 : Int))) := by rw [hitB, hgD, hm8e]
                        have HST : Hid (okB x old l1 l2 s (k4 + 1) = (okB x old l1 l2 s k4 || ((decide ((m8 : Int) = (s : Int)) && l2.getD k4 false) && decide (x = secT 2 (k4 : Int))))) := by rw [← hhit]; exact hstep
                        obtain ⟨q, hq⟩ : ∃ q, q = okB x old l1 l2 s k4 := ⟨_, rfl⟩
                        obtain ⟨q', hq'⟩ : ∃ q', q' = okB x old l1 l2 s (k4 + 1) := ⟨_, rfl⟩
                        rw [← hq, ← hq'] at HST
                        rw [← hq]
                        have HQ : Hid (q' = okB x old l1 l2 s (k4 + 1)) := hq'
                        have hfx4 : Fresh wr gx x := HFW.out.other hb4.size (hb4.block gx HFW.out.lt)
                        have HFX4 : Hid (Fresh wr gx x) := hfx4
                        have HB4 : Hid (Below wc.heap.size wc wr) := hb4
                        clear hstep hhit hq hq' hcs hv hgD hbl hm8e hfx4 hb4
                        clear hk4 hk440
                        cases q with
                        | true =>
                            have hq' : q' = true := by rw [HST.out]; rfl
                            clear HST
                            go_wp2
                            go_region
                            all_goals go_wp2
                            all_goals exact ⟨⟨k4 + 1, by omega, by omega, by go_num, by rw [← HQ.out, hq'], (HB4.out).drew⟩, by simp [intOf]; omega⟩
                        | false =>
                            by_cases hms : (m8 : Int) = (s : Int)
                            · have hms2 : ((m8 : Int) == (s : Int)) = true := by rw [beq_iff_eq]; exact hms
                              rw [decide_eq_true hms] at HST
                              clear hms
                              by_cases hkk : k4 < l2.length
                              · obtain ⟨kb, ko, rfl, hkb, hkc⟩ : ∃ b off, a2 = some ⟨b, off, none⟩ ∧ b < w.heap.size ∧ ∀ j (h : j < l2.length), w.cell? ⟨b, off + j, none⟩ = some (.bool l2[j]) := by
                                  rcases H2.out with h0 | h0
                                  · rw [h0] at hkk; simp at hkk
                                  · exact h0
                                have hkcell : wr.cell? ⟨kb, ko + k4, none⟩ = some (.bool l2[k4]) := (HB4.out.cell (p := ⟨kb, ko + k4, none⟩) (Nat.lt_of_lt_of_le hkb HIC.out.old.size)).trans ((HIC.out.old.cell (p := ⟨kb, ko + k4, none⟩) hkb).trans (hkc k4 hkk))
                                have hkd : l2.getD k4 false = l2[k4] := by simp [List.getD, hkk]
                                rw [hkd] at HST
                                obtain ⟨kv, hkv⟩ : ∃ kv, kv = l2[k4] := ⟨_, rfl⟩
                                rw [← hkv] at hkcell HST
                                have hkki : (k4 : Int) < (l2.length : Int) := by omega
                                clear hkc hkd hkv hkb
                                cases kv with
                                | true =>
                                  have hq1 : q' = decide (x = secT 2 (k4 : Int)) := by rw [HST.out]; simp
                                  clear HST
                                  have hse := sector_any 2 (k4 : Int) wr.drew
                                  have HSE := (show Hid _ from hse)
                                  have hcx0 := convert_bytes wr (some ⟨gx, 0, none⟩) cx x.data.toList HFX4.out.bytes
                                  rw [show x.data.toList.length = x.size from by simp, show (⟨x.data.toList.toArray⟩ : ByteArray) = x from by simp] at hcx0
                                  have hcx1 := convert_bytes wr.drew (some ⟨gx, 0, none⟩) cx x.data.toList HFX4.out.bytes
                                  rw [show x.data.toList.length = x.size from by simp, show (⟨x.data.toList.toArray⟩ : ByteArray) = x from by simp] at hcx1
                                  obtain ⟨y, hy⟩ : ∃ y, y = secT 2 (k4 : Int) := ⟨_, rfl⟩
                                  have hcy : ∀ w2 : World, w2.ownsRow wr.heap.size 5 1 (.slice (some ⟨wr.heap.size, 0, none⟩) 256 256) 256 (bcs (sec 2 (k4 : Int))) → Below wr.heap.size wr.drew w2 → (convert 31 9 (.slice (some ⟨wr.heap.size, 0, none⟩) 256 256)).run Try.prog w2 = .ok (.string y) w2 ∧ (convert 31 9 (.slice (some ⟨gx, 0, none⟩) x.size cx)).run Try.prog w2 = .ok (.string x) w2 ∧ Below wc.heap.size wc w2 ∧ w2.cell? ⟨b, off + k4, none⟩ = some (.int .i64 v) ∧ w2.cell? ⟨kb, ko + k4, none⟩ = some (.bool true) := by
                                    intro w2 ho hb
                                    have hb' : Below wr.heap.size wr w2 := ⟨hb.os, hb.tape, hb.output, hb.size, hb.block⟩
                                    have c1 := convert_bytes w2 (some ⟨wr.heap.size, 0, none⟩) 256 (sec 2 (k4 : Int)) (own_bytes ho)
                                    rw [sec_length] at c1
                                    have c2 := convert_bytes w2 (some ⟨gx, 0, none⟩) cx x.data.toList (HFX4.out.other hb'.size (hb'.block gx HFX4.out.lt)).bytes
                                    rw [show x.data.toList.length = x.size from by simp, show (⟨x.data.toList.toArray⟩ : ByteArray) = x from by simp] at c2
                                    exact ⟨by rw [hy]; exact c1, c2, HB4.out.trans (hb'.mono HB4.out.size), (hb'.cell (p := ⟨b, off + k4, none⟩) (World.block_lt_of_cell? _ _ hcell)).trans hcell, (hb'.cell (p := ⟨kb, ko + k4, none⟩) (World.block_lt_of_cell? _ _ hkcell)).trans hkcell⟩
                                  have hqy : (x.toList == y.toList) = q' := by rw [str_eq, hq1, hy]
                                  have HCY := (show Hid _ from hcy)
                                  have HQ1 := (show Hid (okB x old l1 l2 s (k4 + 1) = q') from HQ.out.symm)
                                  clear hse hcy hq1 hy HQ
                                  go_wp2
                                  refine wp_region_held_drew (S := fun w' => w'.cell? ⟨b, off + k4, none⟩ = some (.int .i64 v) ∧ w'.cell? ⟨kb, ko + k4, none⟩ = some (.bool true) ∧ (convert 31 9 (.slice (some ⟨gx, 0, none⟩) x.size cx)).run Try.prog w' = .ok (.string x) w') (by kernel_rfl) ⟨hcell, hkcell, hcx1⟩ (fun hHeld => ?_)
                                  (refine wpAnyH_take (i := 0) (oi := { dst := some 117, op := Op.move (Operand.tmp 16), type := 4, pos := "law.go:117", after := #[], guard := none }) (v := ?v0) rfl (by kernel_rfl) (by kernel_rfl) (by kernel_rfl) (fun _ _ _ h => h) (Or.inl ⟨by rfl, ?hy0⟩) (by assumption) ?rest0
                                   case hy0 => (intro w0 hSw; (try dsimp only at hSw); go_simp; (try with_reducible rfl))
                                   (try simp only [Act.put, List.setIfInBounds_toArray, List.set_cons_zero, List.set_cons_succ]))
                                  (refine wpAnyH_take (i := 1) (oi := { dst := some 118, op := Op.move (Operand.tmp 117), type := 4, pos := "law.go:117", after := #[{ on := 0, ground := Ground.data }], guard := none }) (v := ?v1) rfl (by kernel_rfl) (by kernel_rfl) (by kernel_rfl) (fun _ _ _ h => h) (Or.inl ⟨by rfl, ?hy1⟩) (by assumption) ?rest1
                                   case hy1 => (intro w0 hSw; (try dsimp only at hSw); go_simp; (try with_reducible rfl))
                                   (try simp only [Act.put, List.setIfInBounds_toArray, List.set_cons_zero, List.set_cons_succ]))
                                  (refine wpAnyH_take (i := 2) (oi := { dst := some 119, op := Op.move (Operand.tmp 1), type := 54, pos := "law.go:117", after := #[{ on := 1, ground := Ground.guard }], guard := some (1, false) }) (v := ?v2) rfl (by kernel_rfl) (by kernel_rfl) (by kernel_rfl) (fun _ _ _ h => h) (Or.inl ⟨by rfl, ?hy2⟩) (by assumption) ?rest2
                                   case hy2 => (intro w0 hSw; (try dsimp only at hSw); go_simp; (try with_reducible rfl))
                                   (try simp only [Act.put, List.setIfInBounds_toArray, List.set_cons_zero, List.set_cons_succ]))
                                  (refine wpAnyH_take (i := 3) (oi := { dst := some 120, op := Op.move (Operand.tmp 17), type := 3, pos := "law.go:117", after := #[{ on := 1, ground := Ground.guard }], guard := some (1, false) }) (v := ?v3) rfl (by kernel_rfl) (by kernel_rfl) (by kernel_rfl) (fun _ _ _ h => h) (Or.inl ⟨by rfl, ?hy3⟩) (by assumption) ?rest3
                                   case hy3 => (intro w0 hSw; (try dsimp only at hSw); go_simp; (try with_reducible rfl))
                                   (try simp only [Act.put, List.setIfInBounds_toArray, List.set_cons_zero, List.set_cons_succ]))
                                  (refine wpAnyH_take (i := 4) (oi := { dst := some 121, op := Op.indexAddr 54 (Operand.tmp 119) (Operand.tmp 120), type := 0, pos := "law.go:117", after := #[{ on := 2, ground := Ground.data }, { on := 3, ground := Ground.data }, { on := 1, ground := Ground.guard }], guard := some (1, false) }) (v := ?v4) rfl (by kernel_rfl) (by kernel_rfl) (by kernel_rfl) (fun _ _ _ h => h) (Or.inl ⟨by rfl, ?hy4⟩) (by assumption) ?rest4
                                   case hy4 => (intro w0 hSw; (try dsimp only at hSw); go_simp; (try with_reducible rfl))
                                   (try simp only [Act.put, List.setIfInBounds_toArray, List.set_cons_zero, List.set_cons_succ]))
                                  (refine wpAnyH_take (i := 5) (oi := { dst := some 122, op := Op.load 3 (Operand.tmp 121), type := 3, pos := "law.go:117", after := #[{ on := 4, ground := Ground.data }, { on := 1, ground := Ground.guard }], guard := some (1, false) }) (v := ?v5) rfl (by kernel_rfl) (by kernel_rfl) (by kernel_rfl) (fun _ _ _ h => h) (Or.inl ⟨by rfl, ?hy5⟩) (by assumption) ?rest5
                                   case hy5 => (intro w0 hSw; (try dsimp only at hSw); go_simp; (try with_reducible rfl))
                                   (try simp only [Act.put, List.setIfInBounds_toArray, List.set_cons_zero, List.set_cons_succ]))
                                  (refine wpAnyH_take (i := 6) (oi := { dst := some 123, op := Op.binOp BinOp.and 3 (Operand.tmp 122) (Operand.const (Value.int IntKind.i64 7)) 3, type := 3, pos := "law.go:117", after := #[{ on := 5, ground := Ground.data }, { on := 1, ground := Ground.guard }], guard := some (1, false) }) (v := ?v6) rfl (by kernel_rfl) (by kernel_rfl) (by kernel_rfl) (fun _ _ _ h => h) (Or.inl ⟨by rfl, ?hy6⟩) (by assumption) ?rest6
                                   case hy6 => (intro w0 hSw; (try dsimp only at hSw); go_simp; (try with_reducible rfl))
                                   (try simp only [Act.put, List.setIfInBounds_toArray, List.set_cons_zero, List.set_cons_succ]))
                                  (refine wpAnyH_take (i := 7) (oi := { dst := some 124, op := Op.move (Operand.tmp 12), type := 3, pos := "law.go:117", after := #[{ on := 1, ground := Ground.guard }], guard := some (1, false) }) (v := ?v7) rfl (by kernel_rfl) (by kernel_rfl) (by kernel_rfl) (fun _ _ _ h => h) (Or.inl ⟨by rfl, ?hy7⟩) (by assumption) ?rest7
                                   case hy7 => (intro w0 hSw; (try dsimp only at hSw); go_simp; (try with_reducible rfl))
                                   (try simp only [Act.put, List.setIfInBounds_toArray, List.set_cons_zero, List.set_cons_succ]))
                                  (refine wpAnyH_take (i := 8) (oi := { dst := some 125, op := Op.binOp BinOp.eql 3 (Operand.tmp 123) (Operand.tmp 124) 3, type := 4, pos := "law.go:117", after := #[{ on := 6, ground := Ground.data }, { on := 7, ground := Ground.data }, { on := 1, ground := Ground.guard }], guard := some (1, false) }) (v := ?v8) rfl (by kernel_rfl) (by kernel_rfl) (by kernel_rfl) (fun _ _ _ h => h) (Or.inl ⟨by rfl, ?hy8⟩) (by assumption) ?rest8
                                   case hy8 => (intro w0 hSw; (try dsimp only at hSw); go_simp; (try with_reducible rfl))
                                   (try simp only [Act.put, List.setIfInBounds_toArray, List.set_cons_zero, List.set_cons_succ]))
                                  (refine wpAnyH_take (i := 9) (oi := { dst := some 126, op := Op.move (Operand.tmp 125), type := 4, pos := "law.go:117", after := #[{ on := 8, ground := Ground.data }, { on := 1, ground := Ground.chain }, { on := 1, ground := Ground.guard }], guard := some (1, false) }) (v := ?v9) rfl (by kernel_rfl) (by kernel_rfl) (by kernel_rfl) (fun _ _ _ h => h) (Or.inl ⟨by rfl, ?hy9⟩) (by assumption) ?rest9
                                   case hy9 => (intro w0 hSw; (try dsimp only at hSw); go_simp; (try with_reducible rfl))
                                   (try simp only [Act.put, List.setIfInBounds_toArray, List.set_cons_zero, List.set_cons_succ]))
                                  (refine wpAnyH_take (i := 10) (oi := { dst := some 127, op := Op.move (Operand.tmp 17), type := 3, pos := "law.go:117", after := #[{ on := 9, ground := Ground.guard }], guard := some (9, true) }) (v := ?v10) rfl (by kernel_rfl) (by kernel_rfl) (by kernel_rfl) (fun _ _ _ h => h) (Or.inl ⟨by rfl, ?hy10⟩) (by assumption) ?rest10
                                   case hy10 => (intro w0 hSw; (try dsimp only at hSw); go_simp; (try with_reducible rfl))
                                   (try simp only [Act.put, List.setIfInBounds_toArray, List.set_cons_zero, List.set_cons_succ]))
                                  (refine wpAnyH_take (i := 11) (oi := { dst := some 128, op := Op.move (Operand.tmp 2), type := 22, pos := "law.go:117", after := #[{ on := 9, ground := Ground.guard }], guard := some (9, true) }) (v := ?v11) rfl (by kernel_rfl) (by kernel_rfl) (by kernel_rfl) (fun _ _ _ h => h) (Or.inl ⟨by rfl, ?hy11⟩) (by assumption) ?rest11
                                   case hy11 => (intro w0 hSw; (try dsimp only at hSw); go_simp; (try with_reducible rfl))
                                   (try simp only [Act.put, List.setIfInBounds_toArray, List.set_cons_zero, List.set_cons_succ]))
                                  (refine wpAnyH_take (i := 12) (oi := { dst := some 129, op := Op.call { callee := Callee.builtin Builtin.len, args := #[Operand.tmp 128], argTypes := #[22] }, type := 3, pos := "law.go:117", after := #[{ on := 11, ground := Ground.data }, { on := 9, ground := Ground.guard }], guard := some (9, true) }) (v := ?v12) rfl (by kernel_rfl) (by kernel_rfl) (by kernel_rfl) (fun _ _ _ h => h) (Or.inl ⟨by rfl, ?hy12⟩) (by assumption) ?rest12
                                   case hy12 => (intro w0 hSw; (try dsimp only at hSw); go_simp; (try with_reducible rfl))
                                   (try simp only [Act.put, List.setIfInBounds_toArray, List.set_cons_zero, List.set_cons_succ]))
                                  (refine wpAnyH_take (i := 13) (oi := { dst := some 130, op := Op.binOp BinOp.lss 3 (Operand.tmp 127) (Operand.tmp 129) 3, type := 4, pos := "law.go:117", after := #[{ on := 10, ground := Ground.data }, { on := 12, ground := Ground.data }, { on := 9, ground := Ground.guard }], guard := some (9, true) }) (v := ?v13) rfl (by kernel_rfl) (by kernel_rfl) (by kernel_rfl) (fun _ _ _ h => h) (Or.inl ⟨by rfl, ?hy13⟩) (by assumption) ?rest13
                                   case hy13 => (intro w0 hSw; (try dsimp only at hSw); go_simp; (try with_reducible rfl))
                                   (try simp only [Act.put, List.setIfInBounds_toArray, List.set_cons_zero, List.set_cons_succ]))
                                  (refine wpAnyH_take (i := 14) (oi := { dst := some 131, op := Op.pick (Operand.tmp 126) (Operand.tmp 130) (Operand.const (Value.bool false)), type := 4, pos := "law.go:117", after := #[{ on := 9, ground := Ground.data }, { on := 13, ground := Ground.data }, { on := 1, ground := Ground.guard }], guard := some (1, false) }) (v := ?v14) rfl (by kernel_rfl) (by kernel_rfl) (by kernel_rfl) (fun _ _ _ h => h) (Or.inl ⟨by rfl, ?hy14⟩) (by assumption) ?rest14
                                   case hy14 => (intro w0 hSw; (try dsimp only at hSw); go_simp; (try with_reducible rfl))
                                   (try simp only [Act.put, List.setIfInBounds_toArray, List.set_cons_zero, List.set_cons_succ]))
                                  (refine wpAnyH_take (i := 15) (oi := { dst := some 132, op := Op.move (Operand.tmp 131), type := 4, pos := "law.go:117", after := #[{ on := 14, ground := Ground.data }, { on := 9, ground := Ground.chain }, { on := 1, ground := Ground.guard }], guard := some (1, false) }) (v := ?v15) rfl (by kernel_rfl) (by kernel_rfl) (by kernel_rfl) (fun _ _ _ h => h) (Or.inl ⟨by rfl, ?hy15⟩) (by assumption) ?rest15
                                   case hy15 => (intro w0 hSw; (try dsimp only at hSw); go_simp; (try with_reducible rfl))
                                   (try simp only [Act.put, List.setIfInBounds_toArray, List.set_cons_zero, List.set_cons_succ]))
                                  (refine wpAnyH_take (i := 16) (oi := { dst := some 133, op := Op.move (Operand.tmp 2), type := 22, pos := "law.go:117", after := #[{ on := 15, ground := Ground.guard }], guard := some (15, true) }) (v := ?v16) rfl (by kernel_rfl) (by kernel_rfl) (by kernel_rfl) (fun _ _ _ h => h) (Or.inl ⟨by rfl, ?hy16⟩) (by assumption) ?rest16
                                   case hy16 => (intro w0 hSw; (try dsimp only at hSw); go_simp; (try with_reducible rfl))
                                   (try simp only [Act.put, List.setIfInBounds_toArray, List.set_cons_zero, List.set_cons_succ]))
                                  (refine wpAnyH_take (i := 17) (oi := { dst := some 134, op := Op.move (Operand.tmp 17), type := 3, pos := "law.go:117", after := #[{ on := 15, ground := Ground.guard }], guard := some (15, true) }) (v := ?v17) rfl (by kernel_rfl) (by kernel_rfl) (by kernel_rfl) (fun _ _ _ h => h) (Or.inl ⟨by rfl, ?hy17⟩) (by assumption) ?rest17
                                   case hy17 => (intro w0 hSw; (try dsimp only at hSw); go_simp; (try with_reducible rfl))
                                   (try simp only [Act.put, List.setIfInBounds_toArray, List.set_cons_zero, List.set_cons_succ]))
                                  (refine wpAnyH_take (i := 18) (oi := { dst := some 135, op := Op.indexAddr 22 (Operand.tmp 133) (Operand.tmp 134), type := 0, pos := "law.go:117", after := #[{ on := 16, ground := Ground.data }, { on := 17, ground := Ground.data }, { on := 15, ground := Ground.guard }], guard := some (15, true) }) (v := ?v18) rfl (by kernel_rfl) (by kernel_rfl) (by kernel_rfl) (fun _ _ _ h => h) (Or.inl ⟨by rfl, ?hy18⟩) (by assumption) ?rest18
                                   case hy18 => (intro w0 hSw; (try dsimp only at hSw); go_simp; (try with_reducible rfl))
                                   (try simp only [Act.put, List.setIfInBounds_toArray, List.set_cons_zero, List.set_cons_succ]))
                                  (refine wpAnyH_take (i := 19) (oi := { dst := some 136, op := Op.load 4 (Operand.tmp 135), type := 4, pos := "law.go:117", after := #[{ on := 18, ground := Ground.data }, { on := 15, ground := Ground.guard }], guard := some (15, true) }) (v := ?v19) rfl (by kernel_rfl) (by kernel_rfl) (by kernel_rfl) (fun _ _ _ h => h) (Or.inl ⟨by rfl, ?hy19⟩) (by assumption) ?rest19
                                   case hy19 => (intro w0 hSw; (try dsimp only at hSw); go_simp; (try with_reducible rfl))
                                   (try simp only [Act.put, List.setIfInBounds_toArray, List.set_cons_zero, List.set_cons_succ]))
                                  (refine wpAnyH_take (i := 20) (oi := { dst := some 137, op := Op.pick (Operand.tmp 132) (Operand.tmp 136) (Operand.const (Value.bool false)), type := 4, pos := "law.go:117", after := #[{ on := 15, ground := Ground.data }, { on := 19, ground := Ground.data }, { on := 1, ground := Ground.guard }], guard := some (1, false) }) (v := ?v20) rfl (by kernel_rfl) (by kernel_rfl) (by kernel_rfl) (fun _ _ _ h => h) (Or.inl ⟨by rfl, ?hy20⟩) (by assumption) ?rest20
                                   case hy20 => (intro w0 hSw; (try dsimp only at hSw); go_simp; (try with_reducible rfl))
                                   (try simp only [Act.put, List.setIfInBounds_toArray, List.set_cons_zero, List.set_cons_succ]))
                                  (refine wpAnyH_take (i := 21) (oi := { dst := some 138, op := Op.move (Operand.tmp 137), type := 4, pos := "law.go:117", after := #[{ on := 20, ground := Ground.data }, { on := 15, ground := Ground.chain }, { on := 1, ground := Ground.guard }], guard := some (1, false) }) (v := ?v21) rfl (by kernel_rfl) (by kernel_rfl) (by kernel_rfl) (fun _ _ _ h => h) (Or.inl ⟨by rfl, ?hy21⟩) (by assumption) ?rest21
                                   case hy21 => (intro w0 hSw; (try dsimp only at hSw); go_simp; (try with_reducible rfl))
                                   (try simp only [Act.put, List.setIfInBounds_toArray, List.set_cons_zero, List.set_cons_succ]))
                                  (refine wpAnyH_take (i := 22) (oi := { dst := some 139, op := Op.move (Operand.tmp 13), type := 31, pos := "law.go:117", after := #[{ on := 21, ground := Ground.guard }], guard := some (21, true) }) (v := ?v22) rfl (by kernel_rfl) (by kernel_rfl) (by kernel_rfl) (fun _ _ _ h => h) (Or.inl ⟨by rfl, ?hy22⟩) (by assumption) ?rest22
                                   case hy22 => (intro w0 hSw; (try dsimp only at hSw); go_simp; (try with_reducible rfl))
                                   (try simp only [Act.put, List.setIfInBounds_toArray, List.set_cons_zero, List.set_cons_succ]))
                                  (refine wpAnyH_take (i := 23) (oi := { dst := some 140, op := Op.convert 31 9 (Operand.tmp 139), type := 9, pos := "law.go:117", after := #[{ on := 22, ground := Ground.data }, { on := 21, ground := Ground.guard }], guard := some (21, true) }) (v := ?v23) rfl (by kernel_rfl) (by kernel_rfl) (by kernel_rfl) (fun _ _ _ h => h) (Or.inl ⟨by rfl, ?hy23⟩) (by assumption) ?rest23
                                   case hy23 => (intro w0 hSw; (try dsimp only at hSw); go_simp; (try with_reducible rfl))
                                   (try simp only [Act.put, List.setIfInBounds_toArray, List.set_cons_zero, List.set_cons_succ]))
                                  (refine wpAnyH_take (i := 24) (oi := { dst := some 141, op := Op.move (Operand.tmp 17), type := 3, pos := "law.go:117", after := #[{ on := 21, ground := Ground.guard }], guard := some (21, true) }) (v := ?v24) rfl (by kernel_rfl) (by kernel_rfl) (by kernel_rfl) (fun _ _ _ h => h) (Or.inl ⟨by rfl, ?hy24⟩) (by assumption) ?rest24
                                   case hy24 => (intro w0 hSw; (try dsimp only at hSw); go_simp; (try with_reducible rfl))
                                   (try simp only [Act.put, List.setIfInBounds_toArray, List.set_cons_zero, List.set_cons_succ]))
                                  refine wpAnyH_ready (rs := [25]) (by kernel_rfl) (by simp) ?_
                                  refine AllReadyH.cons (o := { dst := some 142, op := Op.call { callee := Callee.value (Operand.func 12), args := #[Operand.const (Value.int IntKind.i64 2), Operand.tmp 141], argTypes := #[3, 3] }, type := 31, pos := "law.go:117", after := #[{ on := 24, ground := Ground.data }, { on := 21, ground := Ground.chain }, { on := 21, ground := Ground.guard }], guard := some (21, true) }) rfl (fun K hK => ?_) AllReadyH.nil
                                  go_simp
                                  go_at_call 12
                                  refine Calls.mono HSE.out ?_
                                  rintro e w2 ⟨rfl, ho2, hb2⟩
                                  have s0 : w2.cell? ⟨b, off + k4, none⟩ = some (.int .i64 v) := (HCY.out w2 ho2 hb2).2.2.2.1
                                  have s1 : w2.cell? ⟨kb, ko + k4, none⟩ = some (.bool true) := (HCY.out w2 ho2 hb2).2.2.2.2
                                  have hc1 := (HCY.out w2 ho2 hb2).1
                                  have hc2 := (HCY.out w2 ho2 hb2).2.1
                                  have HB2 := (show Hid (Below wc.heap.size wc w2) from (HCY.out w2 ho2 hb2).2.2.1)
                                  clear ho2 hb2
                                  go_wp2_with fail
                                  refine hK.out _ _ ⟨s0, s1, hc2⟩ (fun hHeld => ?_)
                                  clear hK K
                                  refine wpAnyH_stronger (S' := fun w' => w'.cell? ⟨b, off + k4, none⟩ = some (.int .i64 v) ∧ w'.cell? ⟨kb, ko + k4, none⟩ = some (.bool true) ∧ (convert 31 9 (.slice (some ⟨gx, 0, none⟩) x.size cx)).run Try.prog w' = .ok (.string x) w' ∧ (convert 31 9 (.slice (some ⟨wr.heap.size, 0, none⟩) 256 256)).run Try.prog w' = .ok (.string y) w') (fun _ h => ⟨h.1, h.2.1, h.2.2.1⟩) _ _ _ _ ?_
                                  have hH2 : w2.cell? ⟨b, off + k4, none⟩ = some (.int .i64 v) ∧ w2.cell? ⟨kb, ko + k4, none⟩ = some (.bool true) ∧ (convert 31 9 (.slice (some ⟨gx, 0, none⟩) x.size cx)).run Try.prog w2 = .ok (.string x) w2 ∧ (convert 31 9 (.slice (some ⟨wr.heap.size, 0, none⟩) 256 256)).run Try.prog w2 = .ok (.string y) w2 := ⟨s0, s1, hc2, hc1⟩
                                  (try simp only [Act.put, List.setIfInBounds_toArray, List.set_cons_zero, List.set_cons_succ])
                                  (refine wpAnyH_take (i := 26) (oi := { dst := some 143, op := Op.convert 31 9 (Operand.tmp 142), type := 9, pos := "law.go:117", after := #[{ on := 25, ground := Ground.data }, { on := 21, ground := Ground.guard }], guard := some (21, true) }) (v := ?v26) rfl (by kernel_rfl) (by kernel_rfl) (by kernel_rfl) (fun _ _ _ h => h) (Or.inl ⟨by rfl, ?hy26⟩) (by assumption) ?rest26
                                   case hy26 => (intro w0 hSw; (try dsimp only at hSw); go_simp; (try with_reducible rfl))
                                   (try simp only [Act.put, List.setIfInBounds_toArray, List.set_cons_zero, List.set_cons_succ]))
                                  (refine wpAnyH_take (i := 27) (oi := { dst := some 144, op := Op.binOp BinOp.eql 9 (Operand.tmp 140) (Operand.tmp 143) 9, type := 4, pos := "law.go:117", after := #[{ on := 23, ground := Ground.data }, { on := 26, ground := Ground.data }, { on := 21, ground := Ground.guard }], guard := some (21, true) }) (v := ?v27) rfl (by kernel_rfl) (by kernel_rfl) (by kernel_rfl) (fun _ _ _ h => h) (Or.inl ⟨by rfl, ?hy27⟩) (by assumption) ?rest27
                                   case hy27 => (intro w0 hSw; (try dsimp only at hSw); go_simp; (try with_reducible rfl))
                                   (try simp only [Act.put, List.setIfInBounds_toArray, List.set_cons_zero, List.set_cons_succ]))
                                  (refine wpAnyH_take (i := 28) (oi := { dst := some 145, op := Op.pick (Operand.tmp 138) (Operand.tmp 144) (Operand.const (Value.bool false)), type := 4, pos := "law.go:117", after := #[{ on := 21, ground := Ground.data }, { on := 27, ground := Ground.data }, { on := 1, ground := Ground.guard }], guard := some (1, false) }) (v := ?v28) rfl (by kernel_rfl) (by kernel_rfl) (by kernel_rfl) (fun _ _ _ h => h) (Or.inl ⟨by rfl, ?hy28⟩) (by assumption) ?rest28
                                   case hy28 => (intro w0 hSw; (try dsimp only at hSw); go_simp; (try with_reducible rfl))
                                   (try simp only [Act.put, List.setIfInBounds_toArray, List.set_cons_zero, List.set_cons_succ]))
                                  (refine wpAnyH_take (i := 29) (oi := { dst := some 146, op := Op.pick (Operand.tmp 118) (Operand.const (Value.bool true)) (Operand.tmp 145), type := 4, pos := "law.go:117", after := #[{ on := 1, ground := Ground.data }, { on := 28, ground := Ground.data }], guard := none }) (v := ?v29) rfl (by kernel_rfl) (by kernel_rfl) (by kernel_rfl) (fun _ _ _ h => h) (Or.inl ⟨by rfl, ?hy29⟩) (by assumption) ?rest29
                                   case hy29 => (intro w0 hSw; (try dsimp only at hSw); go_simp; (try with_reducible rfl))
                                   (try simp only [Act.put, List.setIfInBounds_toArray, List.set_cons_zero, List.set_cons_succ]))
                                  (refine wpAnyH_take (i := 30) (oi := { dst := some 16, op := Op.assign (Operand.tmp 146), type := 4, pos := "law.go:117", after := #[{ on := 29, ground := Ground.data }, { on := 25, ground := Ground.chain }, { on := 0, ground := Ground.phase }, { on := 1, ground := Ground.phase }, { on := 2, ground := Ground.phase }, { on := 3, ground := Ground.phase }, { on := 4, ground := Ground.phase }, { on := 5, ground := Ground.phase }, { on := 6, ground := Ground.phase }, { on := 7, ground := Ground.phase }, { on := 8, ground := Ground.phase }, { on := 9, ground := Ground.phase }, { on := 10, ground := Ground.phase }, { on := 11, ground := Ground.phase }, { on := 12, ground := Ground.phase }, { on := 13, ground := Ground.phase }, { on := 14, ground := Ground.phase }, { on := 15, ground := Ground.phase }, { on := 16, ground := Ground.phase }, { on := 17, ground := Ground.phase }, { on := 18, ground := Ground.phase }, { on := 19, ground := Ground.phase }, { on := 20, ground := Ground.phase }, { on := 21, ground := Ground.phase }, { on := 22, ground := Ground.phase }, { on := 23, ground := Ground.phase }, { on := 24, ground := Ground.phase }, { on := 25, ground := Ground.phase }, { on := 26, ground := Ground.phase }, { on := 27, ground := Ground.phase }, { on := 28, ground := Ground.phase }, { on := 29, ground := Ground.phase }], guard := none }) (v := ?v30) rfl (by kernel_rfl) (by kernel_rfl) (by kernel_rfl) (fun _ _ _ h => h) (Or.inl ⟨by rfl, ?hy30⟩) (by assumption) ?rest30
                                   case hy30 => (intro w0 hSw; (try dsimp only at hSw); go_simp; (try with_reducible rfl))
                                   (try simp only [Act.put, List.setIfInBounds_toArray, List.set_cons_zero, List.set_cons_succ]))
                                  refine wpAnyH_done (by kernel_rfl) ?_ _
                                  go_wp2
                                  exact ⟨⟨k4 + 1, by omega, by omega, by go_num, by rw [HQ1.out], HB2.out⟩, by simp [intOf]; omega⟩
                                | false =>
                                  have hq' : q' = false := by rw [HST.out]; rfl
                                  clear HST
                                  go_wp2
                                  go_region
                                  all_goals go_wp2
                                  all_goals exact ⟨⟨k4 + 1, by omega, by omega, by go_num, by rw [← HQ.out, hq'], (HB4.out).drew⟩, by simp [intOf]; omega⟩
                              · have hkki : ¬ (k4 : Int) < (l2.length : Int) := by omega
                                have hkk2 : (l2.length : Int) ≤ (k4 : Int) := by omega
                                have hkk3 : l2.length ≤ k4 := by omega
                                have hq' : q' = false := by rw [HST.out, List.getD_eq_getElem?_getD, List.getElem?_eq_none (by omega)]; rfl
                                clear HST
                                go_wp2
                                go_region
                                all_goals go_wp2
                                all_goals exact ⟨⟨k4 + 1, by omega, by omega, by go_num, by rw [← HQ.out, hq'], (HB4.out).drew⟩, by simp [intOf]; omega⟩
                            · have hms2 : ((m8 : Int) == (s : Int)) = false := by rw [beq_eq_false_iff_ne]; exact hms
                              have hq' : q' = false := by rw [HST.out, decide_eq_false hms]; rfl
                              clear HST hms
                              go_wp2
                              go_region
                              all_goals go_wp2
                              all_goals exact ⟨⟨k4 + 1, by omega, by omega, by go_num, by rw [← HQ.out, hq'], (HB4.out).drew⟩, by simp [intOf]; omega⟩
                      · have HLT4 := (show Hid (¬ (k4 < l1.length ∧ k4 < 40)) from hlt4)
                        have hkk : k4 = k2 := by have := HLT2.out; omega
                        have hok : okB x old l1 l2 s k4 = true := by
                          rw [hkk, HO.out, HAS.out.1, HA.out]
                          exact okB_full hlt (by rw [← HA.out, ← HX8.out]; exact HXS.out)
                        rw [hok]
                        have HB4 : Hid (Below wc.heap.size wc wr) := hb4
                        clear hok hkk hlt4 hb4
                        go_upto_region 28 with fail
                        go_cut [114] (fun v w' => v = .bool false ∧ w' = wr)
                        case first =>
                          by_cases hc : k4 < l1.length
                          · have hc1 : (k4 : Int) < (l1.length : Int) := by omega
                            have hc2 : ¬ (k4 : Int) < 40 := by have := HLT4.out; omega
                            go_wp2
                            go_meet
                            case rel => exact ⟨rfl, rfl⟩
                          · have hc1 : ¬ (k4 : Int) < (l1.length : Int) := by omega
                            go_wp2
                            go_meet
                            case rel => exact ⟨rfl, rfl⟩
                        case rest =>
                          obtain ⟨rfl, rfl⟩ := hcut
                          go_wp2
                          go_roundw
                          case rel => exact ⟨s + 1, by omega, by go_num, (HB4.out.block _ (Array.getElem?_eq_some_iff.1 HLC.out).1).trans HLC.out, HIC.out.below HB4.out⟩
                          case measure => simp [intOf]; omega
                · have hpe := dl_pending hI
                  have haw := awake_any wr
                  have hsi : ¬ (s : Int) < 8 := by omega
                  have HOLD : Hid (Below w.heap.size w wr) := hI.old
                  clear hI hL
                  go_wp2_with (first
                    | (go_at_call 23; refine Calls.mono hpe ?_; rintro e w6 ⟨rfl, rfl⟩)
                    | (go_at_call 8; refine Calls.mono haw ?_; rintro e w6 ⟨rfl, hb6⟩))
                  go_ret
                  exact ⟨rfl, HOLD.out.trans (hb6.mono HOLD.out.size)⟩
end Go.Proofs.Ythmjejmkkllbaaa

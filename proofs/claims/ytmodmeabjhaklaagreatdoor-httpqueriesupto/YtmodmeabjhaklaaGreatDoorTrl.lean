/-
  The head's end (reader.headEnd).
-/
import Derived.Test.YtmodmeabjhaklaaGreatDoorHdr
namespace Go.Proofs.YtmodmeabjhaklaaGreatDoor
open Go.RowKit

theorem flt_size {hs : List Hd} (h : fltL hs = 0) : 0 ≤ En.intV ((getL hs nCl).getD []) ∧ En.intV ((getL hs nCl).getD []) ≤ 1048576 := by
  unfold fltL at h
  split at h
  · omega
  · split at h
    · omega
    · split at h
      · omega
      · split at h
        · omega
        · next h4 =>
          refine ⟨?_, by omega⟩
          unfold En.intV
          split
          · exact (En.ival_bd _ _).1
          · omega
set_option maxRecDepth 20000 in
set_option maxHeartbeats 1000000 in
theorem headEnd_any {w0 w : World} {p : Nat} {l : List UInt8} {s : St} {a : Option Addr} {cap : Nat} {T : Tl} {hv pv : Value} {xs : List Sl} (h : Rd w0 w p l s a cap T hv pv xs) :
    Calls Tryz.prog 24 #[.pointer (some ⟨p, 0, none⟩)] w fun e w' => NxR w0 w w' p l a cap e (stepF l 2 s) := by
  obtain ⟨ha, hc, hve, hH⟩ := own_hdrs h.hs
  have hl9 : s.hs.length ≤ 1000000000 := by have := h.inv.hs; have := h.inv.at_; have := h.inv.len; omega
  have c15 : w.cell? ⟨p, 15, none⟩ = some (.slice ha s.hs.length hc) := by rw [← hve]; exact h.rb.cell 15 rfl
  have HFl := (show Hid _ from faultOf_any ha s.hs hc w hH hl9 h.inv.sm)
  have HG := (show Hid (∀ n W, Below w.heap.size w W → Calls Tryz.prog 16 #[.slice ha s.hs.length hc, .string ⟨n.toArray⟩] W fun e w' => e = .returned (.tuple #[.string ⟨((getL s.hs n).getD []).toArray⟩, .bool (getL s.hs n).isSome]) ∧ Below w.heap.size w w') from fun n W hW =>
    (get_any ha s.hs hc n W (hH.below hW (Nat.le_refl _)) hl9).mono fun e w' ⟨h1, h2⟩ => ⟨h1, hW.trans (h2.mono hW.size)⟩)
  have hcl := h.inv.sm.get nCl
  have H := (show Hid _ from h)
  have HS : Hid (stepF l 2 s = if fltL s.hs ≠ 0 then .fin (.bad (fltL s.hs)) else if (getL s.hs nTe).isSome then .go 4 s else .go 3 { s with size := (En.intV ((getL s.hs nCl).getD [])).toNat }) := rfl
  have HZ : Hid (fltL s.hs = 0 → 0 ≤ En.intV ((getL s.hs nCl).getD []) ∧ En.intV ((getL s.hs nCl).getD []) ≤ 1048576) := flt_size
  clear h hH hve
  go_enter Tryz.func24, Tryz.ntmps24
  go_wp2_with fail
  refine Calls.mono HFl.out ?_
  rintro e w1 ⟨rfl, hb1⟩
  have HB1 : Hid (Below w.heap.size w w1) := hb1
  clear HFl
  by_cases h0 : fltL s.hs = 0
  · have hneq : ((fltL s.hs) != 0) = false := by rw [h0]; rfl
    have hr1 := H.out.below hb1
    have c15' : w1.cell? ⟨p, 15, none⟩ = some (.slice ha s.hs.length hc) := (hb1.cell (p := ⟨p, 15, none⟩) H.out.rb.lt).trans c15
    have hz := HZ.out h0
    have hs := HS.out
    rw [if_neg (by simp [h0])] at hs
    have HS2 := (show Hid _ from hs)
    have G1 := (show Hid _ from HG.out nTe w1 hb1)
    have G2 := (show Hid _ from fun W hW => HG.out nCl W hW)
    unfold nTe at G1 HS2
    unfold nCl at G2 HS2
    unfold nCl at hz hcl
    have HC15 : Hid (w.cell? ⟨p, 15, none⟩ = some (.slice ha s.hs.length hc)) := c15
    clear hs HS HZ HG h0 c15 hr1
    generalize getL s.hs [116, 114, 97, 110, 115, 102, 101, 114, 45, 101, 110, 99, 111, 100, 105, 110, 103] = te at *
    go_wp2_with fail
    refine Calls.mono G1.out ?_
    rintro e w2 ⟨rfl, hb2⟩
    have hr2 := H.out.below hb2
    have c15'' : w2.cell? ⟨p, 15, none⟩ = some (.slice ha s.hs.length hc) := (hb2.cell (p := ⟨p, 15, none⟩) H.out.rb.lt).trans HC15.out
    cases te with
    | some t =>
      have HR := (show Hid _ from And.intro hr2 hb2)
      clear hr2 hb2
      simp only [Option.isSome_some]
      go_wp2
      go_ret
      exact NxR.go HS2.out rfl HR.out.1 (HR.out.2.mono (Nat.le_of_lt H.out.rb.lt))
    | none =>
      have K := G2.out w2 hb2
      have HB2 : Hid (Below w.heap.size w w2) := hb2
      clear G2 hr2 hb2 c15'
      simp only [Option.isSome_none]
      go_wp2_with fail
      refine Calls.mono K ?_
      rintro e w3 ⟨rfl, hb3⟩
      have hr3 := H.out.below hb3
      have f17 := hr3.rb.fz 17
      have c17 := hr3.rb.cell 17 rfl
      generalize (getL s.hs [99, 111, 110, 116, 101, 110, 116, 45, 108, 101, 110, 103, 116, 104]).isSome = cb at *
      generalize (getL s.hs [99, 111, 110, 116, 101, 110, 116, 45, 108, 101, 110, 103, 116, 104]).getD [] = cv at *
      have HI : Hid (∀ W, Calls Tryz.prog 46 #[.string ⟨cv.toArray⟩] W fun e w' => e = .returned (.tuple #[.int .i64 (En.intV cv), .bool (En.intOk cv)]) ∧ W = w') := fun W => En.int_any ⟨cv.toArray⟩ W (by rw [mk_size]; omega)
      generalize En.intV cv = iv at *
      generalize En.intOk cv = io at *
      have hI := H.out.inv
      have hm : Md (· = p) w (w3.setCell ⟨p, 17, none⟩ (.int .i64 iv)) := (Md.ofBelow hb3).setp _ _
      have HR := (show Hid (NxR w0 w (w3.setCell ⟨p, 17, none⟩ (.int .i64 iv)) p l a cap (.returned (.int .i64 3)) (stepF l 2 s)) from by
        refine NxR.go HS2.out rfl (H.out.turn hm (T' := T) (Rb.of (set_lst hr3.rb 17 _) ?_) rfl rfl ⟨hI.at_, hI.len, hI.head, hI.fields, hI.hs, hI.pcs, hI.sum, by simp only; omega, hI.sm⟩) (hm.toBl H.out.rb.lt)
        have : ((iv.toNat : Nat) : Int) = iv := by omega
        simp [Rs.c, rsOf, this])
      clear hr3 hb3 K hI hm
      go_wp2_with fail
      refine Calls.mono (HI.out w3) ?_
      rintro e w3' ⟨rfl, rfl⟩
      go_wp2
      go_ret
      exact HR.out
  · have hneq : ((fltL s.hs) != 0) = true := by rw [bne_iff_ne]; exact h0
    have hr1 := H.out.below hb1
    have K := (bad_any p _ (fltL s.hs) w1 hr1.rb)
    have HS2 : Hid (stepF l 2 s = .fin (.bad (fltL s.hs))) := by show _ = _; rw [HS.out, if_pos h0]
    clear HS HZ HG hr1 hb1 h0
    generalize fltL s.hs = x at *
    go_wp2_with fail
    refine Calls.mono K ?_
    rintro e w2 ⟨rfl, hr2, hm2⟩
    have HR := (show Hid _ from And.intro hr2 hm2)
    clear hr2 hm2 K
    go_wp2
    go_ret
    exact NxR.fin HS2.out rfl HR.out.1 rfl ((HB1.out.mono (Nat.le_of_lt H.out.rb.lt)).trans (HR.out.2.toBl (H.out.below HB1.out).rb.lt)) H.out.bl H.out.lo
end Go.Proofs.YtmodmeabjhaklaaGreatDoor

/-
  A line of the head or of the trailers (reader.field).
-/
import Derived.Test.YtmodmeabjhaklaaGreatDoorRdC
namespace Go.Proofs.YtmodmeabjhaklaaGreatDoor
open Go.RowKit

def hdV (h : Option Hd) : Hd := h.getD ([], [])
def FlR (w0 w w' : World) (p : Nat) (l : List UInt8) (a : Option Addr) (cap : Nat) (T : Tl) (hv pv : Value) (xs : List Sl) (e : Ending) : Fl → Prop
  | .fin t => e = .returned (.tuple #[.agg #[.string ⟨#[]⟩, .string ⟨#[]⟩], .bool false]) ∧ FinR w0 w' p t ∧ Below p w w'
  | .ok s' h => e = .returned (.tuple #[.agg #[.string ⟨(hdV h).1.toArray⟩, .string ⟨(hdV h).2.toArray⟩], .bool true]) ∧ Rd w0 w' p l s' a cap T hv pv xs ∧ Md (· = p) w w'
theorem FlR.fin {w0 w w' : World} {p : Nat} {l : List UInt8} {a : Option Addr} {cap : Nat} {T : Tl} {hv pv : Value} {xs : List Sl} {e : Ending} {f : Fl} {t : Tld} {r : Rs} (h : f = .fin t) (he : e = .returned (.tuple #[.agg #[.string ⟨#[]⟩, .string ⟨#[]⟩], .bool false])) (hr : Rb w' p r) (ht : TlR w' (p + 1) r.told t) (hm : Md (· = p) w w') (hp : p < w.heap.size) (hw : Below w0.heap.size w0 w) (hl : w0.heap.size ≤ p) : FlR w0 w w' p l a cap T hv pv xs e f := by
  rw [h]; exact ⟨he, ⟨r, hr, ht, hw.trans ((hm.toBl hp).mono hl)⟩, hm.toBl hp⟩
theorem FlR.ok {w0 w w' : World} {p : Nat} {l : List UInt8} {a : Option Addr} {cap : Nat} {T : Tl} {hv pv : Value} {xs : List Sl} {e : Ending} {f : Fl} {s' : St} {h : Option Hd} (hf : f = .ok s' h) (he : e = .returned (.tuple #[.agg #[.string ⟨(hdV h).1.toArray⟩, .string ⟨(hdV h).2.toArray⟩], .bool true])) (hr : Rd w0 w' p l s' a cap T hv pv xs) (hm : Md (· = p) w w') : FlR w0 w w' p l a cap T hv pv xs e f := by
  rw [hf]; exact ⟨he, hr, hm⟩
theorem Rd.below {w0 w w' : World} {p : Nat} {l : List UInt8} {s : St} {a : Option Addr} {cap : Nat} {T : Tl} {hv pv : Value} {xs : List Sl} (h : Rd w0 w p l s a cap T hv pv xs) (hb : Below w.heap.size w w') : Rd w0 w' p l s a cap T hv pv xs :=
  h.turn (Md.ofBelow hb) (h.rb.below hb) rfl rfl h.inv
theorem fld_more {l : List UInt8} {s : St} (h : lnL (65536 - s.head - 2) (65536 - s.head) (l.drop s.at_) = .more) : fldL l s = .fin .more := by simp [fldL, h]
theorem fld_long {l : List UInt8} {s : St} (h : lnL (65536 - s.head - 2) (65536 - s.head) (l.drop s.at_) = .long) : fldL l s = .fin (.bad 339) := by simp [fldL, h]
theorem fld_nil {l : List UInt8} {s : St} (h : lnL (65536 - s.head - 2) (65536 - s.head) (l.drop s.at_) = .ok []) : fldL l s = .ok { s with at_ := s.at_ + 2, head := s.head + 2 } none := by simp [fldL, h]
theorem fld_many {l x : List UInt8} {s : St} (h : lnL (65536 - s.head - 2) (65536 - s.head) (l.drop s.at_) = .ok x) (hx : x ≠ []) (hf : 100 < s.fields + 1) : fldL l s = .fin (.bad 339) := by simp [fldL, h, hx, hf]
theorem fld_bad {l x : List UInt8} {s : St} (h : lnL (65536 - s.head - 2) (65536 - s.head) (l.drop s.at_) = .ok x) (hx : x ≠ []) (hf : ¬ 100 < s.fields + 1) (hh : hdrL x = none) : fldL l s = .fin (.bad 308) := by simp [fldL, h, hx, hf, hh]
theorem fld_ok {l x : List UInt8} {s : St} {z : Hd} (h : lnL (65536 - s.head - 2) (65536 - s.head) (l.drop s.at_) = .ok x) (hx : x ≠ []) (hf : ¬ 100 < s.fields + 1) (hh : hdrL x = some z) : fldL l s = .ok { s with at_ := s.at_ + (x.length + 2), head := s.head + (x.length + 2), fields := s.fields + 1 } (some z) := by simp [fldL, h, hx, hf, hh]

theorem set2 {w w1 : World} {p N : Nat} {r : Rs} (hr : Rb w1 p r) (hm : Md (· = p) w w1) (hN : w.heap.size ≤ N) (hp : p ≠ N) (v0 v1 : Value) : Rb ((w1.setCell ⟨N, 0, none⟩ v0).setCell ⟨N, 1, none⟩ v1) p r ∧ Md (· = p) w ((w1.setCell ⟨N, 0, none⟩ v0).setCell ⟨N, 1, none⟩ v1) :=
  ⟨hr.keep (F := (· = N)) (((Md.refl _ _).setp _ _).setp _ _) hp, (hm.set (.inr hN) _ _).set (.inr hN) _ _⟩
set_option maxRecDepth 20000 in
set_option maxHeartbeats 1000000 in
theorem field_any {w0 w : World} {p : Nat} {l : List UInt8} {s : St} {a : Option Addr} {cap : Nat} {T : Tl} {hv pv : Value} {xs : List Sl} (h : Rd w0 w p l s a cap T hv pv xs) :
    Calls Tryz.prog 44 #[.pointer (some ⟨p, 0, none⟩)] w fun e w' => FlR w0 w w' p l a cap T hv pv xs e (fldL l s) := by
  obtain ⟨N, hN⟩ : ∃ N, N = w.heap.size := ⟨_, rfl⟩
  obtain ⟨WA, hWA⟩ : ∃ WA, WA = w.alloc (.cells #[.string ⟨#[]⟩, .string ⟨#[]⟩] 45) := ⟨_, rfl⟩
  have hbA : Below w.heap.size w WA := by rw [hWA]; exact (Below.refl _ _).alloc (Nat.le_refl _) _
  have hRA := h.below hbA
  have hnA : WA.heap[N]? = some (.cells #[.string ⟨#[]⟩, .string ⟨#[]⟩] 45 (0, 0)) := by rw [hWA, hN]; exact heap_alloc_new w _
  have HL := (show Hid _ from hRA.line (65536 - s.head - 2) (65536 - s.head) 339)
  have hI := h.inv
  have hh1 : s.head ≤ 1000000000 := by have := hI.head; have := hI.at_; have := hI.len; omega
  have H := (show Hid _ from h)
  have hpN : p ≠ N := by have := h.rb.lt; omega
  have c11 := hRA.rb.cell 11 rfl
  have HN : Hid (N = w.heap.size ∧ WA = w.alloc (.cells #[.string ⟨#[]⟩, .string ⟨#[]⟩] 45)) := ⟨hN, hWA⟩
  have HA := (show Hid _ from And.intro hnA hRA)
  have HbA : Hid (Below w.heap.size w WA) := hbA
  have hcw : w.cell? ⟨p, 11, none⟩ = some (.int .i64 (s.head : Int)) := h.rb.cell 11 rfl
  have hpl : p < w.heap.size := h.rb.lt
  have hcA : (w.alloc (.cells #[.string ⟨#[]⟩, .string ⟨#[]⟩] 45)).cell? ⟨p, 11, none⟩ = some (.int .i64 (s.head : Int)) := by rw [← hWA]; exact c11
  clear h hbA hnA hRA hI c11
  go_enter Tryz.func44, Tryz.ntmps44
  go_wp2_with fail
  rw [← hN, ← hWA]
  clear hN hWA hcw hcA hpl
  refine Calls.mono HL.out ?_
  clear HL
  intro e w1 hln
  cases hx : lnL (65536 - s.head - 2) (65536 - s.head) (l.drop s.at_) with
  | more =>
    rw [hx] at hln
    obtain ⟨rfl, hr, hm⟩ := hln
    have hn1 := keep_blk HA.out.1 hm (fun h => hpN h.symm)
    have d0 := cell_blk hn1 0
    have d1 := cell_blk hn1 1
    have g0 := frozen_blk hn1 0
    have g1 := frozen_blk hn1 1
    simp at d0 d1
    have HS : Hid (fldL l s = .fin .more) := fld_more hx
    have HS2 := (show Hid _ from fun v0 v1 => set2 hr ((Md.ofBelow HbA.out).trans hm) (Nat.le_of_eq HN.out.1.symm) hpN v0 v1)
    clear hx hr hm hn1
    go_wp2
    refine bodyPost_ret (v := .tuple #[.agg #[.string ⟨#[]⟩, .string ⟨#[]⟩], .bool false]) (by simp [results, Tryz.results44, go_sem, d0, d1]) rfl ?_
    exact FlR.fin HS.out rfl (HS2.out _ _).1 rfl (HS2.out _ _).2 H.out.rb.lt H.out.bl H.out.lo
  | long =>
    rw [hx] at hln
    obtain ⟨rfl, hr, hm⟩ := hln
    have hn1 := keep_blk HA.out.1 hm (fun h => hpN h.symm)
    have d0 := cell_blk hn1 0
    have d1 := cell_blk hn1 1
    have g0 := frozen_blk hn1 0
    have g1 := frozen_blk hn1 1
    simp at d0 d1
    have HS : Hid (fldL l s = .fin (.bad 339)) := fld_long hx
    have HS2 := (show Hid _ from fun v0 v1 => set2 hr ((Md.ofBelow HbA.out).trans hm) (Nat.le_of_eq HN.out.1.symm) hpN v0 v1)
    clear hx hr hm hn1
    go_wp2
    refine bodyPost_ret (v := .tuple #[.agg #[.string ⟨#[]⟩, .string ⟨#[]⟩], .bool false]) (by simp [results, Tryz.results44, go_sem, d0, d1]) rfl ?_
    exact FlR.fin HS.out rfl (HS2.out _ _).1 rfl (HS2.out _ _).2 H.out.rb.lt H.out.bl H.out.lo
  | ok x =>
    rw [hx] at hln
    obtain ⟨rfl, hr, hm⟩ := hln
    have hn1 := keep_blk HA.out.1 hm (fun h => hpN h.symm)
    have d0 := cell_blk hn1 0
    have d1 := cell_blk hn1 1
    have g0 := frozen_blk hn1 0
    have g1 := frozen_blk hn1 1
    simp at d0 d1
    have hxl := (ln_ok hx).2.2.1
    rw [List.length_drop] at hxl
    have hI := H.out.inv
    have hat : s.at_ + (x.length + 2) ≤ l.length := by have := hI.at_; omega
    have hl9 := hI.len
    have hx9 : x.length ≤ 1000000000 := by omega
    have hf9 : s.fields ≤ 1000000000 := by have := hI.fields; have := hI.at_; omega
    have HX : Hid (lnL (65536 - s.head - 2) (65536 - s.head) (l.drop s.at_) = .ok x) := hx
    have c11 : w1.cell? ⟨p, 11, none⟩ = some (.int .i64 (s.head : Int)) := hr.cell 11 rfl
    have f11 := hr.fz 11
    have hM1 : Md (· = p) w w1 := (Md.ofBelow HbA.out).trans hm
    have HInv : Hid (∀ f, f ≤ s.fields + 1 → Inv l { s with at_ := s.at_ + (x.length + 2), head := s.head + (x.length + 2), fields := f }) := fun f hf => ⟨hat, hl9, by have := hI.head; simp only; omega, by have := hI.fields; simp only; omega, by have := hI.hs; simp only; omega, by have := hI.pcs; simp only; omega, by have := hI.sum; simp only; omega, hI.size, hI.sm⟩
    clear hI hx hm
    by_cases hx0 : x = []
    · subst hx0
      have hR2 : Rb (w1.setCell ⟨p, 11, none⟩ (.int .i64 ((s.head : Int) + 2))) p (rsOf { s with at_ := s.at_ + 2, head := s.head + 2 } (.slice a l.length cap) T hv pv) := Rb.of (set_lst hr 11 _) rfl
      have HS2 := (show Hid _ from fun v0 v1 => set2 hR2 (hM1.setp 11 _) (Nat.le_of_eq HN.out.1.symm) hpN v0 v1)
      have HS : Hid (fldL l s = .ok { s with at_ := s.at_ + 2, head := s.head + 2 } none) := fld_nil HX.out
      have hNp : N ≠ p := fun h => hpN h.symm
      clear hr hn1 hR2 hM1 HX
      go_wp2
      refine bodyPost_ret (v := .tuple #[.agg #[.string ⟨#[]⟩, .string ⟨#[]⟩], .bool true]) (by simp [results, Tryz.results44, go_sem, d0, d1]) rfl ?_
      exact FlR.ok HS.out rfl (H.out.turn (HS2.out _ _).2 (HS2.out _ _).1 rfl rfl (HInv.out s.fields (by omega))) (HS2.out _ _).2
    · have hxb : (x == []) = false := by rw [beq_eq_false_iff_ne]; exact hx0
      have c12 : w1.cell? ⟨p, 12, none⟩ = some (.int .i64 (s.fields : Int)) := hr.cell 12 rfl
      have f12 := hr.fz 12
      obtain ⟨W, hW⟩ : ∃ W, W = (w1.setCell ⟨p, 11, none⟩ (.int .i64 ((s.head : Int) + ((x.length : Int) + 2)))).setCell ⟨p, 12, none⟩ (.int .i64 ((s.fields : Int) + 1)) := ⟨_, rfl⟩
      have hR2 : Rb W p (rsOf { s with at_ := s.at_ + (x.length + 2), head := s.head + (x.length + 2), fields := s.fields + 1 } (.slice a l.length cap) T hv pv) := by rw [hW]; exact Rb.of (set_lst (set_lst hr 11 _) 12 _) rfl
      have hM2 : Md (· = p) w W := by rw [hW]; exact (hM1.setp _ _).setp _ _
      have hnW : W.heap[N]? = some (.cells #[.string ⟨#[]⟩, .string ⟨#[]⟩] 45 (0, 0)) := by
        rw [hW]
        exact keep_blk hn1 (((Md.refl (· = p) _).setp _ _).setp _ _) (fun h => hpN h.symm)
      have HW := (show Hid (∀ W', Below W.heap.size W W' → Rb W' p (rsOf { s with at_ := s.at_ + (x.length + 2), head := s.head + (x.length + 2), fields := s.fields + 1 } (.slice a l.length cap) T hv pv) ∧ Md (· = p) w W' ∧ Below w0.heap.size w0 W' ∧ W'.heap[N]? = some (.cells #[.string ⟨#[]⟩, .string ⟨#[]⟩] 45 (0, 0))) from fun W' hb => ⟨hR2.below hb, hM2.below hb, H.out.bl.trans (((hM2.below hb).toBl H.out.rb.lt).mono H.out.lo), keep_blk hnW (Md.ofBelow (F := fun _ => False) hb) (fun h => h)⟩)
      have h0 := HW.out W (Below.refl _ _)
      have HC := (show Hid _ from cut_any x [58] W hx9 (H.out.mx.below h0.2.2.1 (Nat.le_refl _)))
      have HH : Hid (hdrL x = if (Lib.cut x [58]).2.2 && tokenB (Lib.cut x [58]).1 && allB valB (Lib.cut x [58]).2.1 then some (lowL (Lib.cut x [58]).1, trimL (Lib.cut x [58]).2.1) else none) := rfl
      have hcl := cut_len x [58]
      clear hr hn1 hR2 hM1 hM2 hnW h0 g0 g1 d0 d1
      go_wp2_with fail
      rw [← hW]
      clear hW c11 f11 c12 f12
      refine Calls.mono HC.out ?_
      rintro e w2 ⟨rfl, hb2⟩
      clear HC
      generalize (Lib.cut x [58]).2.2 = fd at *
      generalize (Lib.cut x [58]).2.1 = vl at *
      generalize (Lib.cut x [58]).1 = nm at *
      have h2 := HW.out w2 hb2
      have c12 : w2.cell? ⟨p, 12, none⟩ = some (.int .i64 ((s.fields + 1 : Nat) : Int)) := h2.1.cell 12 rfl
      have HB2 : Hid (Below W.heap.size W w2) := hb2
      have HBad := (show Hid (∀ W', Below W.heap.size W W' → ∀ z, fldL l s = .fin (.bad z) → Calls Tryz.prog 43 #[.pointer (some ⟨p, 0, none⟩), .int .i64 z] W' fun e w' => e = .returned (.int .i64 7) ∧ w'.heap[N]? = some (.cells #[.string ⟨#[]⟩, .string ⟨#[]⟩] 45 (0, 0)) ∧ ∀ v0 v1, FlR w0 w ((w'.setCell ⟨N, 0, none⟩ v0).setCell ⟨N, 1, none⟩ v1) p l a cap T hv pv xs (.returned (.tuple #[.agg #[.string ⟨#[]⟩, .string ⟨#[]⟩], .bool false])) (fldL l s)) from fun W' hW' z hz => by
        have h4 := HW.out W' hW'
        refine (bad_any p _ z W' h4.1).mono ?_
        rintro e w' ⟨rfl, h5, h6⟩
        refine ⟨rfl, keep_blk h4.2.2.2 h6 (fun h => hpN h.symm), fun v0 v1 => ?_⟩
        have h7 := set2 h5 (h4.2.1.trans h6) (Nat.le_of_eq HN.out.1.symm) hpN v0 v1
        exact FlR.fin hz rfl h7.1 rfl h7.2 H.out.rb.lt H.out.bl H.out.lo)
      clear h2 hb2
      by_cases hf : 100 < s.fields + 1
      · have hfi : (100 : Int) < ((s.fields + 1 : Nat) : Int) := by omega
        have K := HBad.out w2 HB2.out 339 (fld_many HX.out hx0 hf)
        clear HBad hf HH
        go_wp2_with fail
        refine Calls.mono K ?_
        rintro e w3 ⟨rfl, hn3, hfl⟩
        have d0 := cell_blk hn3 0
        have d1 := cell_blk hn3 1
        have g0 := frozen_blk hn3 0
        have g1 := frozen_blk hn3 1
        simp at d0 d1
        have HF := (show Hid _ from hfl)
        clear K hn3 hfl
        go_wp2
        refine bodyPost_ret (v := .tuple #[.agg #[.string ⟨#[]⟩, .string ⟨#[]⟩], .bool false]) (by simp [results, Tryz.results44, go_sem, d0, d1]) rfl ?_
        exact HF.out _ _
      · have hfi : ¬ (100 : Int) < ((s.fields + 1 : Nat) : Int) := by omega
        have HTk := (show Hid _ from token_any ⟨nm.toArray⟩ w2 (by rw [mk_size]; unfold maxLen; omega))
        have HVl := (show Hid _ from value_any ⟨vl.toArray⟩ w2 (by rw [mk_size]; unfold maxLen; omega))
        have HF1 : Hid (hdrL x = none → fldL l s = .fin (.bad 308)) := fun hh => fld_bad HX.out hx0 hf hh
        have HF2 : Hid (∀ z, hdrL x = some z → fldL l s = .ok { s with at_ := s.at_ + (x.length + 2), head := s.head + (x.length + 2), fields := s.fields + 1 } (some z)) := fun z hh => fld_ok HX.out hx0 hf hh
        clear HX hx0 hf
        cases fd
        · have K := HBad.out w2 HB2.out 308 (HF1.out (by rw [HH.out]; rfl))
          clear HBad HH HF1 HF2 HTk HVl HW
          go_wp2_with fail
          refine Calls.mono K ?_
          rintro e w3 ⟨rfl, hn3, hfl⟩
          have d0 := cell_blk hn3 0
          have d1 := cell_blk hn3 1
          have g0 := frozen_blk hn3 0
          have g1 := frozen_blk hn3 1
          simp at d0 d1
          have HF := (show Hid _ from hfl)
          clear K hn3 hfl
          go_wp2
          refine bodyPost_ret (v := .tuple #[.agg #[.string ⟨#[]⟩, .string ⟨#[]⟩], .bool false]) (by simp [results, Tryz.results44, go_sem, d0, d1]) rfl ?_
          exact HF.out _ _
        · cases htk : tokenB nm with
          | false =>
            have K := HBad.out w2 HB2.out 308 (HF1.out (by rw [HH.out, htk]; rfl))
            have HT2 := (show Hid (Calls Tryz.prog 63 #[.string ⟨nm.toArray⟩] w2 fun e w' => e = .returned (.bool false) ∧ w2 = w') from by rw [← htk]; exact HTk.out)
            clear HBad HH HF1 HF2 HTk HVl HW htk
            go_wp2_with fail
            refine Calls.mono HT2.out ?_
            rintro e w' ⟨rfl, rfl⟩
            go_wp2_with fail
            refine Calls.mono K ?_
            rintro e w3 ⟨rfl, hn3, hfl⟩
            have d0 := cell_blk hn3 0
            have d1 := cell_blk hn3 1
            have g0 := frozen_blk hn3 0
            have g1 := frozen_blk hn3 1
            simp at d0 d1
            have HF := (show Hid _ from hfl)
            clear K hn3 hfl
            go_wp2
            refine bodyPost_ret (v := .tuple #[.agg #[.string ⟨#[]⟩, .string ⟨#[]⟩], .bool false]) (by simp [results, Tryz.results44, go_sem, d0, d1]) rfl ?_
            exact HF.out _ _
          | true =>
            have HT2 := (show Hid (Calls Tryz.prog 63 #[.string ⟨nm.toArray⟩] w2 fun e w' => e = .returned (.bool true) ∧ w2 = w') from by rw [← htk]; exact HTk.out)
            cases hvl : allB valB vl with
            | false =>
              have K := HBad.out w2 HB2.out 308 (HF1.out (by rw [HH.out, htk, hvl]; rfl))
              have HV2 := (show Hid (Calls Tryz.prog 66 #[.string ⟨vl.toArray⟩] w2 fun e w' => e = .returned (.bool false) ∧ w2 = w') from by rw [← hvl]; exact HVl.out)
              clear HBad HH HF1 HF2 HTk HVl HW htk hvl
              go_wp2_with fail
              refine Calls.mono HT2.out ?_
              rintro e w' ⟨rfl, rfl⟩
              go_wp2_with fail
              refine Calls.mono HV2.out ?_
              rintro e w' ⟨rfl, rfl⟩
              go_wp2_with fail
              refine Calls.mono K ?_
              rintro e w3 ⟨rfl, hn3, hfl⟩
              have d0 := cell_blk hn3 0
              have d1 := cell_blk hn3 1
              have g0 := frozen_blk hn3 0
              have g1 := frozen_blk hn3 1
              simp at d0 d1
              have HF := (show Hid _ from hfl)
              clear K hn3 hfl
              go_wp2
              refine bodyPost_ret (v := .tuple #[.agg #[.string ⟨#[]⟩, .string ⟨#[]⟩], .bool false]) (by simp [results, Tryz.results44, go_sem, d0, d1]) rfl ?_
              exact HF.out _ _
            | true =>
              have HV2 := (show Hid (Calls Tryz.prog 66 #[.string ⟨vl.toArray⟩] w2 fun e w' => e = .returned (.bool true) ∧ w2 = w') from by rw [← hvl]; exact HVl.out)
              have HOK : Hid (fldL l s = .ok { s with at_ := s.at_ + (x.length + 2), head := s.head + (x.length + 2), fields := s.fields + 1 } (some (lowL nm, trimL vl))) := HF2.out _ (by rw [HH.out, htk, hvl]; rfl)
              have HLo := (show Hid _ from lower_any ⟨nm.toArray⟩ w2 (by rw [mk_size]; omega))
              have HTr := (show Hid _ from fun W => trim_any ⟨vl.toArray⟩ W (by rw [mk_size]; omega))
              clear HBad HH HF1 HF2 HTk HVl htk hvl
              go_wp2_with fail
              refine Calls.mono HT2.out ?_
              rintro e w' ⟨rfl, rfl⟩
              go_wp2_with fail
              refine Calls.mono HV2.out ?_
              rintro e w' ⟨rfl, rfl⟩
              go_wp2_with fail
              refine Calls.mono HLo.out ?_
              rintro e w3 ⟨rfl, hb3⟩
              have HB3 : Hid (Below W.heap.size W w3) := HB2.out.trans (hb3.mono HB2.out.size)
              clear hb3 HLo c12
              go_wp2_with fail
              refine Calls.mono (HTr.out w3) ?_
              rintro e w4 ⟨rfl, hb4⟩
              have h4 := HW.out w4 (HB3.out.trans (hb4.mono HB3.out.size))
              have d0 := cell_blk h4.2.2.2 0
              have d1 := cell_blk h4.2.2.2 1
              have g0 := frozen_blk h4.2.2.2 0
              have g1 := frozen_blk h4.2.2.2 1
              simp at d0 d1
              have HS2 := (show Hid _ from fun v0 v1 => set2 h4.1 h4.2.1 (Nat.le_of_eq HN.out.1.symm) hpN v0 v1)
              clear h4 hb4 HTr HW
              go_wp2
              refine bodyPost_ret (v := .tuple #[.agg #[.string ⟨(lowL nm).toArray⟩, .string ⟨(trimL vl).toArray⟩], .bool true]) (by simp [results, Tryz.results44, go_sem, d0, d1]) rfl ?_
              exact FlR.ok HOK.out rfl (H.out.turn (HS2.out _ _).2 (HS2.out _ _).1 rfl rfl (HInv.out (s.fields + 1) (by omega))) (HS2.out _ _).2
end Go.Proofs.YtmodmeabjhaklaaGreatDoor

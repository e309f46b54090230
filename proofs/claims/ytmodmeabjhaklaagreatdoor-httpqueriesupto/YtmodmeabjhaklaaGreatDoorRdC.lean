/-
  The request line (reader.requestLine).
-/
import Derived.Test.YtmodmeabjhaklaaGreatDoorRdB
namespace Go.Proofs.YtmodmeabjhaklaaGreatDoor
open Go.RowKit

theorem step0_more {l : List UInt8} {s : St} (h : lnL 8192 8193 (l.drop s.at_) = .more) : stepF l 0 s = .fin .more := by simp [stepF, h]
theorem step0_long {l : List UInt8} {s : St} (h : lnL 8192 8193 (l.drop s.at_) = .long) : stepF l 0 s = .fin (.bad 338) := by simp [stepF, h]
theorem step0_bad {l x : List UInt8} {s : St} {e : Int} (h : lnL 8192 8193 (l.drop s.at_) = .ok x) (hq : reqL x = .bad e) : stepF l 0 s = .fin (.bad e) := by simp [stepF, h, hq]
theorem step0_ok {l x m t : List UInt8} {s : St} (h : lnL 8192 8193 (l.drop s.at_) = .ok x) (hq : reqL x = .ok m t) : stepF l 0 s = .go 1 { s with at_ := s.at_ + (x.length + 2), head := s.at_ + (x.length + 2), m := m, t := t } := by simp [stepF, h, hq]

set_option maxRecDepth 20000 in
set_option maxHeartbeats 4000000 in
theorem requestLine_any {w0 w : World} {p : Nat} {l : List UInt8} {s : St} {a : Option Addr} {cap : Nat} {T : Tl} {hv pv : Value} {xs : List Sl} (h : Rd w0 w p l s a cap T hv pv xs) :
    Calls Tryz.prog 22 #[.pointer (some ⟨p, 0, none⟩)] w fun e w' => NxR w0 w w' p l a cap e (stepF l 0 s) := by
  have HL := (show Hid _ from h.line 8192 8193 338)
  have H := (show Hid _ from h)
  clear h
  go_enter Tryz.func22, Tryz.ntmps22
  go_wp2_with fail
  refine Calls.mono HL.out ?_
  clear HL
  intro e w1 hln
  cases hx : lnL 8192 8193 (l.drop s.at_) with
  | more =>
    rw [hx] at hln
    obtain ⟨rfl, hr, hm⟩ := hln
    have HS : Hid (stepF l 0 s = .fin .more) := step0_more hx
    have HR := (show Hid _ from And.intro hr hm)
    clear hx hr hm
    go_wp2
    go_ret
    exact NxR.fin HS.out rfl HR.out.1 rfl (HR.out.2.toBl H.out.rb.lt) H.out.bl H.out.lo
  | long =>
    rw [hx] at hln
    obtain ⟨rfl, hr, hm⟩ := hln
    have HS : Hid (stepF l 0 s = .fin (.bad 338)) := step0_long hx
    have HR := (show Hid _ from And.intro hr hm)
    clear hx hr hm
    go_wp2
    go_ret
    exact NxR.fin HS.out rfl HR.out.1 rfl (HR.out.2.toBl H.out.rb.lt) H.out.bl H.out.lo
  | ok x =>
    rw [hx] at hln
    obtain ⟨rfl, hr, hm⟩ := hln
    have hxl := (ln_ok hx).2.2.1
    rw [List.length_drop] at hxl
    have hI := H.out.inv
    have hat : s.at_ + (x.length + 2) ≤ l.length := by have := hI.at_; omega
    have hl9 := hI.len
    have hx9 : x.length ≤ 1000000000 := by omega
    have c1 := hr.cell 1 rfl
    have c11 := hr.cell 11 rfl
    have f11 := hr.fz 11
    have HX : Hid (lnL 8192 8193 (l.drop s.at_) = .ok x) := hx
    obtain ⟨k, hk⟩ : ∃ k : Nat, k = s.at_ + (x.length + 2) := ⟨_, rfl⟩
    have hR2 : Rb (w1.setCell ⟨p, 11, none⟩ (.int .i64 (k : Int))) p { rsOf s (.slice a l.length cap) T hv pv with at_ := k, head := k } := by
      refine Rb.of (set_lst hr 11 _) ?_
      rw [hk]
      rfl
    have c1' : w1.cell? ⟨p, 1, none⟩ = some (.int .i64 (k : Int)) := by rw [c1, hk]; rfl
    have hM2 : Md (· = p) w (w1.setCell ⟨p, 11, none⟩ (.int .i64 (k : Int))) := hm.setp _ _
    have HW := (show Hid (∀ W, Below (w1.setCell ⟨p, 11, none⟩ (.int .i64 (k : Int))).heap.size (w1.setCell ⟨p, 11, none⟩ (.int .i64 (k : Int))) W → Rb W p { rsOf s (.slice a l.length cap) T hv pv with at_ := k, head := k } ∧ Md (· = p) w W ∧ Below w0.heap.size w0 W) from fun W hW => ⟨hR2.below hW, hM2.below hW, H.out.bl.trans (((hM2.below hW).toBl H.out.rb.lt).mono H.out.lo)⟩)
    obtain ⟨W, hWe⟩ : ∃ W, W = w1.setCell ⟨p, 11, none⟩ (.int .i64 (k : Int)) := ⟨_, rfl⟩
    rw [← hWe] at HW
    have h0 := HW.out W (Below.refl _ _)
    have HK : Hid (k = s.at_ + (x.length + 2) ∧ s.at_ + (x.length + 2) ≤ l.length) := ⟨hk, hat⟩
    have hcl := cut_len x [32]
    have hcl2 := cut_len (Lib.cut x [32]).2.1 [32]
    have HC1 := (show Hid _ from cut_any x [32] W hx9 (H.out.mx.below h0.2.2 (Nat.le_refl _)))
    have HRq : Hid (reqL x = if (metB (Lib.cut x [32]).1 && tarB (Lib.cut (Lib.cut x [32]).2.1 [32]).1 && verB (Lib.cut (Lib.cut x [32]).2.1 [32]).2.1) = false then .bad 308 else if (Lib.cut (Lib.cut x [32]).2.1 [32]).2.1 ≠ http11 then .bad 340 else if (Lib.cut (Lib.cut x [32]).2.1 [32]).1.getD 0 0 ≠ 47 ∧ (Lib.cut (Lib.cut x [32]).2.1 [32]).1 ≠ [42] then .bad 331 else .ok (Lib.cut x [32]).1 (Lib.cut (Lib.cut x [32]).2.1 [32]).1) := rfl
    clear c1 hx hm hr hR2 hM2 h0 hI hat hk
    go_wp2_with fail
    rw [← hWe]
    refine Calls.mono HC1.out ?_
    rintro e w2 ⟨rfl, hb2⟩
    have h2 := HW.out w2 hb2
    have HC2 := (show Hid _ from cut_any (Lib.cut x [32]).2.1 [32] w2 (by omega) (H.out.mx.below h2.2.2 (Nat.le_refl _)))
    generalize (Lib.cut x [32]).2.2 = fd1 at *
    generalize (Lib.cut (Lib.cut x [32]).2.1 [32]).2.2 = fd2 at *
    generalize (Lib.cut (Lib.cut x [32]).2.1 [32]).2.1 = v at *
    generalize (Lib.cut (Lib.cut x [32]).2.1 [32]).1 = t at *
    generalize (Lib.cut x [32]).2.1 = bh at *
    generalize (Lib.cut x [32]).1 = m at *
    have HB2 : Hid (Below W.heap.size W w2) := hb2
    clear h2 hb2 HC1 hWe c1' c11 f11
    go_wp2_with fail
    refine Calls.mono HC2.out ?_
    rintro e w3 ⟨rfl, hb3⟩
    have HB3 : Hid (Below W.heap.size W w3) := HB2.out.trans (hb3.mono HB2.out.size)
    clear hb3 HC2 HB2
    have HMe := (show Hid _ from isMethod_any m w3 (by omega))
    have HTa := (show Hid _ from isTarget_any t w3 (by omega))
    have HVe := (show Hid _ from isVersion_any v w3 (by omega))
    have htl : t.length ≤ 1000000000 := by omega
    have HBad := (show Hid (∀ W', Below W.heap.size W W' → ∀ z, reqL x = .bad z → Calls Tryz.prog 43 #[.pointer (some ⟨p, 0, none⟩), .int .i64 z] W' fun e w' => e = .returned (.int .i64 7) ∧ NxR w0 w w' p l a cap (.returned (.int .i64 7)) (stepF l 0 s)) from fun W' hW' z hz => by
      have h4 := HW.out W' hW'
      refine (bad_any p _ z W' h4.1).mono ?_
      rintro e w' ⟨rfl, h5, h6⟩
      exact ⟨rfl, NxR.fin (step0_bad HX.out hz) rfl h5 rfl ((h4.2.1.trans h6).toBl H.out.rb.lt) H.out.bl H.out.lo⟩)
    clear hcl hcl2
    cases hme : metB m with
    | false =>
      have hq : reqL x = .bad 308 := by rw [HRq.out, hme]; rfl
      have K := HBad.out w3 HB3.out 308 hq
      rw [hme] at HMe
      clear HRq hq HBad hme HTa HVe
      go_wp2_with fail
      refine Calls.mono HMe.out ?_
      rintro e w' ⟨rfl, rfl⟩
      go_wp2_with fail
      refine Calls.mono K ?_
      rintro e w' ⟨rfl, hn⟩
      go_wp2
      go_ret
      exact hn
    | true =>
      rw [hme] at HMe
      cases hta : tarB t with
      | false =>
        have hq : reqL x = .bad 308 := by rw [HRq.out, hme, hta]; rfl
        have K := HBad.out w3 HB3.out 308 hq
        rw [hta] at HTa
        clear HRq hq HBad hme HVe hta
        go_wp2_with fail
        refine Calls.mono HMe.out ?_
        rintro e w' ⟨rfl, rfl⟩
        go_wp2_with fail
        refine Calls.mono HTa.out ?_
        rintro e w' ⟨rfl, rfl⟩
        go_wp2_with fail
        refine Calls.mono K ?_
        rintro e w' ⟨rfl, hn⟩
        go_wp2
        go_ret
        exact hn
      | true =>
        rw [hta] at HTa
        cases hve : verB v with
        | false =>
          have hq : reqL x = .bad 308 := by rw [HRq.out, hme, hta, hve]; rfl
          rw [hve] at HVe
          have HQ : Hid (reqL x = .bad 308) := hq
          clear HRq hq hme hta hve
          go_wp2_with fail
          refine Calls.mono HMe.out ?_
          rintro e w' ⟨rfl, rfl⟩
          go_wp2_with fail
          refine Calls.mono HTa.out ?_
          rintro e w' ⟨rfl, rfl⟩
          go_wp2_with fail
          refine Calls.mono HVe.out ?_
          rintro e w4 ⟨rfl, hb4⟩
          have K := HBad.out w4 (HB3.out.trans (hb4.mono HB3.out.size)) 308 HQ.out
          clear hb4 HBad
          go_wp2_with fail
          refine Calls.mono K ?_
          rintro e w' ⟨rfl, hn⟩
          go_wp2
          go_ret
          exact hn
        | true =>
          rw [hve] at HVe
          have hq := HRq.out
          rw [hme, hta, hve] at hq
          simp only [Bool.and_self, Bool.true_eq_false, if_false] at hq
          have HQ := (show Hid _ from hq)
          have htp : t ≠ [] := by
            intro h
            rw [h] at hta
            simp [tarB] at hta
          clear HRq hq hme hta hve
          go_wp2_with fail
          refine Calls.mono HMe.out ?_
          rintro e w' ⟨rfl, rfl⟩
          go_wp2_with fail
          refine Calls.mono HTa.out ?_
          rintro e w' ⟨rfl, rfl⟩
          go_wp2_with fail
          refine Calls.mono HVe.out ?_
          rintro e w4 ⟨rfl, hb4⟩
          have HB4 : Hid (Below W.heap.size W w4) := HB3.out.trans (hb4.mono HB3.out.size)
          clear hb4 HB3 HMe HTa HVe
          by_cases hv11 : v = http11
          · have hvi : (v == [72, 84, 84, 80, 47, 49, 46, 49]) = true := by rw [hv11]; rfl
            match t, htp with
            | t0 :: tr, _ =>
              have ht0 : t0.toNat < 256 := t0.toNat_lt
              have hq := HQ.out
              rw [if_neg (by simp [hv11])] at hq
              simp only [List.getD_cons_zero] at hq
              have HQ2 := (show Hid _ from hq)
              obtain ⟨S, hS⟩ : ∃ S : ByteArray, S = ⟨(t0 :: tr).toArray⟩ := ⟨_, rfl⟩
              have hsz : 0 < S.size := by rw [hS, mk_size]; simp
              have hg0 : S[0] = t0 := by subst hS; rfl
              rw [← hS]
              have hr4 := (HW.out w4 HB4.out).1
              have c13 := hr4.cell 13 rfl
              have c14 := hr4.cell 14 rfl
              have f13 := hr4.fz 13
              have f14 := hr4.fz 14
              have HG : Hid (reqL x = .ok m (t0 :: tr) → NxR w0 w ((w4.setCell ⟨p, 13, none⟩ (.string ⟨m.toArray⟩)).setCell ⟨p, 14, none⟩ (.string S)) p l a cap (.returned (.int .i64 1)) (stepF l 0 s)) := by
                intro hq
                have h5 := HW.out w4 HB4.out
                have hm5 : Md (· = p) w ((w4.setCell ⟨p, 13, none⟩ (.string ⟨m.toArray⟩)).setCell ⟨p, 14, none⟩ (.string S)) := (h5.2.1.setp _ _).setp _ _
                obtain ⟨hk1, hk2⟩ := HK.out
                have hI := H.out.inv
                refine NxR.go (step0_ok HX.out hq) rfl (H.out.turn (T' := T) hm5 (Rb.of (set_lst (set_lst h5.1 13 _) 14 _) ?_) rfl rfl ?_) (hm5.toBl H.out.rb.lt)
                · rw [hS, ← hk1]
                  rfl
                · exact ⟨hk2, hI.len, Nat.le_refl _, Nat.le_trans hI.fields (by simp), Nat.le_trans hI.hs (by simp), Nat.le_trans hI.pcs (by simp), Nat.le_trans hI.sum (by simp), hI.size, hI.sm⟩
              have hsi : (0 : Int) < (S.size : Int) := by omega
              by_cases h47 : t0 = 47
              · have hc47 : (((S[0]).toNat : Int) != 47) = false := by rw [hg0, h47]; rfl
                have K := HG.out (by rw [HQ2.out, if_neg (by simp [h47])])
                clear HG HQ HQ2 HBad hS hg0 hv11 h47 hr4
                go_wp2
                go_ret
                exact K
              · have hc47 : (((S[0]).toNat : Int) != 47) = true := by
                  rw [hg0, bne_iff_ne]
                  intro h
                  apply h47
                  apply UInt8.toNat.inj
                  have : (47 : UInt8).toNat = 47 := rfl
                  omega
                by_cases hst : (t0 :: tr) = [42]
                · have hsb : (S.toList == [42]) = true := by rw [hS, hst, Lib.toList_data]; rfl
                  have K := HG.out (by rw [HQ2.out, if_neg (by simp [hst])])
                  clear HG HQ HQ2 HBad hS hg0 hv11 h47 hr4 hst
                  go_wp2
                  go_ret
                  exact K
                · have hsb : (S.toList == [42]) = false := by rw [hS, Lib.toList_data, beq_eq_false_iff_ne]; exact hst
                  have K := HBad.out w4 HB4.out 331 (by rw [HQ2.out, if_pos ⟨h47, hst⟩])
                  clear HG HQ HQ2 HBad hS hg0 hv11 h47 hr4 hst
                  go_wp2_with fail
                  refine Calls.mono K ?_
                  rintro e w' ⟨rfl, hn⟩
                  go_wp2
                  go_ret
                  exact hn
          · have hvi : (v == [72, 84, 84, 80, 47, 49, 46, 49]) = false := by rw [beq_eq_false_iff_ne]; exact hv11
            have K := HBad.out w4 HB4.out 340 (by rw [HQ.out, if_pos hv11])
            clear HBad HQ hv11
            go_wp2_with fail
            refine Calls.mono K ?_
            rintro e w' ⟨rfl, hn⟩
            go_wp2
            go_ret
            exact hn
end Go.Proofs.YtmodmeabjhaklaaGreatDoor

/-
  The line ahead of a chunk (reader.chunkLine); what the steps keep.
-/
import Derived.Test.YtmodmeabjhaklaaGreatDoorTrl
namespace Go.Proofs.YtmodmeabjhaklaaGreatDoor
open Go.RowKit

theorem fld_keep {l : List UInt8} {s s' : St} {z : Option Hd} (h : fldL l s = .ok s' z) : s'.pcs = s.pcs ∧ s'.sum = s.sum ∧ s'.size = s.size := by
  unfold fldL at h
  split at h
  · cases h
  · cases h
  · split at h
    · simp only [Fl.ok.injEq] at h
      obtain ⟨rfl, -⟩ := h
      exact ⟨rfl, rfl, rfl⟩
    · split at h
      · cases h
      · split at h
        · cases h
        · simp only [Fl.ok.injEq] at h
          obtain ⟨rfl, -⟩ := h
          exact ⟨rfl, rfl, rfl⟩
theorem step4_more {l : List UInt8} {s : St} (h : lnL 256 257 (l.drop s.at_) = .more) : stepF l 4 s = .fin .more := by simp [stepF, h]
theorem step4_long {l : List UInt8} {s : St} (h : lnL 256 257 (l.drop s.at_) = .long) : stepF l 4 s = .fin (.bad 308) := by simp [stepF, h]
theorem step4_bad {l x : List UInt8} {s : St} (h : lnL 256 257 (l.drop s.at_) = .ok x) (hc : chkL x = none) : stepF l 4 s = .fin (.bad 308) := by simp [stepF, h, hc]
theorem step4_big {l x : List UInt8} {s : St} {n : Nat} (h : lnL 256 257 (l.drop s.at_) = .ok x) (hc : chkL x = some n) (hn : 1048576 < s.sum + n) : stepF l 4 s = .fin (.bad 324) := by simp [stepF, h, hc, hn]
theorem step4_nil {l x : List UInt8} {s : St} (h : lnL 256 257 (l.drop s.at_) = .ok x) (hc : chkL x = some 0) (hn : ¬ 1048576 < s.sum + 0) : stepF l 4 s = .go 6 { s with at_ := s.at_ + (x.length + 2) } := by simp [stepF, h, hc]; omega
theorem step4_go {l x : List UInt8} {s : St} {n : Nat} (h : lnL 256 257 (l.drop s.at_) = .ok x) (hc : chkL x = some n) (hn : ¬ 1048576 < s.sum + n) (h0 : n ≠ 0) : stepF l 4 s = .go 5 { s with at_ := s.at_ + (x.length + 2), size := n } := by simp [stepF, h, hc, hn, h0]

set_option maxRecDepth 20000 in
set_option maxHeartbeats 1000000 in
theorem chunkLine_any {w0 w : World} {p : Nat} {l : List UInt8} {s : St} {a : Option Addr} {cap : Nat} {T : Tl} {hv pv : Value} {xs : List Sl} (h : Rd w0 w p l s a cap T hv pv xs) :
    Calls Tryz.prog 26 #[.pointer (some ⟨p, 0, none⟩)] w fun e w' => NxR w0 w w' p l a cap e (stepF l 4 s) := by
  have HL := (show Hid _ from h.line 256 257 308)
  have H := (show Hid _ from h)
  clear h
  go_enter Tryz.func26, Tryz.ntmps26
  go_wp2_with fail
  refine Calls.mono HL.out ?_
  clear HL
  intro e w1 hln
  cases hx : lnL 256 257 (l.drop s.at_) with
  | more =>
    rw [hx] at hln
    obtain ⟨rfl, hr, hm⟩ := hln
    have HS : Hid (stepF l 4 s = .fin .more) := step4_more hx
    have HR := (show Hid _ from And.intro hr hm)
    clear hx hr hm
    go_wp2
    go_ret
    exact NxR.fin HS.out rfl HR.out.1 rfl (HR.out.2.toBl H.out.rb.lt) H.out.bl H.out.lo
  | long =>
    rw [hx] at hln
    obtain ⟨rfl, hr, hm⟩ := hln
    have HS : Hid (stepF l 4 s = .fin (.bad 308)) := step4_long hx
    have HR := (show Hid _ from And.intro hr hm)
    clear hx hr hm
    go_wp2
    go_ret
    exact NxR.fin HS.out rfl HR.out.1 rfl (HR.out.2.toBl H.out.rb.lt) H.out.bl H.out.lo
  | ok x =>
    rw [hx] at hln
    obtain ⟨rfl, hr, hm⟩ := hln
    have hxl := (ln_ok hx).2.2.1
    rw [List.length_drop] at hxl
    have hI := H.out.inv
    have hat : s.at_ + (x.length + 2) ≤ l.length := by have := hI.at_; omega
    have hl9 := hI.len
    have hsum := hI.sum
    have hx9 : x.length ≤ 1000000000 := by omega
    have hr1 : Rd w0 w1 p l { s with at_ := s.at_ + (x.length + 2) } a cap T hv pv xs := H.out.turn hm hr rfl rfl ⟨hat, hl9, by have := hI.head; simp only; omega, by have := hI.fields; simp only; omega, by have := hI.hs; simp only; omega, by have := hI.pcs; simp only; omega, by simp only; omega, hI.size, hI.sm⟩
    have HC := (show Hid _ from chunkSize_any x w1 hx9 (H.out.mx.below hr1.bl (Nat.le_refl _)) (H.out.er.below hr1.bl (Nat.le_refl _)))
    have HX : Hid (lnL 256 257 (l.drop s.at_) = .ok x) := hx
    have HR1 := (show Hid _ from And.intro hr1 hm)
    have hlt : ∀ n, chkL x = some n → n < 4294967296 := fun n h => chk_lt h
    have hat9 : s.at_ ≤ l.length := by omega
    clear hx hr hm hr1 hI hat
    go_wp2_with fail
    refine Calls.mono HC.out ?_
    clear HC
    rintro e w2 ⟨rfl, hb2⟩
    have hr2 := HR1.out.1.below hb2
    have hm2 : Md (· = p) w w2 := HR1.out.2.below hb2
    have c19 : w2.cell? ⟨p, 19, none⟩ = some (.int .i64 (s.sum : Int)) := hr2.rb.cell 19 rfl
    have c17 := hr2.rb.cell 17 rfl
    have f17 := hr2.rb.fz 17
    have HR2 := (show Hid _ from And.intro hr2 hm2)
    clear hr2 hm2 HR1 hb2
    have HBad := (show Hid (∀ z, stepF l 4 s = .fin (.bad z) → Calls Tryz.prog 43 #[.pointer (some ⟨p, 0, none⟩), .int .i64 z] w2 fun e w' => e = .returned (.int .i64 7) ∧ NxR w0 w w' p l a cap (.returned (.int .i64 7)) (stepF l 4 s)) from fun z hz => by
      refine (bad_any p _ z w2 HR2.out.1.rb).mono ?_
      rintro e w' ⟨rfl, h5, h6⟩
      exact ⟨rfl, NxR.fin hz rfl h5 rfl ((HR2.out.2.trans h6).toBl H.out.rb.lt) H.out.bl H.out.lo⟩)
    cases hc : chkL x with
    | none =>
      have K := HBad.out 308 (step4_bad HX.out hc)
      clear hc hlt HBad
      simp only [Option.getD_none, Option.isSome_none]
      go_wp2_with fail
      refine Calls.mono K ?_
      rintro e w' ⟨rfl, hn⟩
      go_wp2
      go_ret
      exact hn
    | some n =>
      have hn9 := hlt n hc
      simp only [Option.getD_some, Option.isSome_some]
      by_cases hb : 1048576 < s.sum + n
      · have hbi : (1048576 : Int) < (s.sum : Int) + (n : Int) := by omega
        have K := HBad.out 324 (step4_big HX.out hc hb)
        clear hc hlt HBad hb
        go_wp2_with fail
        refine Calls.mono K ?_
        rintro e w' ⟨rfl, hn⟩
        go_wp2
        go_ret
        exact hn
      · have hbi : ¬ (1048576 : Int) < (s.sum : Int) + (n : Int) := by omega
        by_cases h0 : n = 0
        · subst h0
          have HS : Hid (stepF l 4 s = .go 6 { s with at_ := s.at_ + (x.length + 2) }) := step4_nil HX.out hc hb
          clear hc hlt HBad hb
          go_wp2
          go_ret
          exact NxR.go HS.out rfl HR2.out.1 (HR2.out.2.toBl H.out.rb.lt)
        · have h0i : ((n : Int) == 0) = false := by rw [beq_eq_false_iff_ne]; omega
          have HS : Hid (stepF l 4 s = .go 5 { s with at_ := s.at_ + (x.length + 2), size := n }) := step4_go HX.out hc hb h0
          have hI := HR2.out.1.inv
          have hm3 : Md (· = p) w2 (w2.setCell ⟨p, 17, none⟩ (.int .i64 (n : Int))) := (Md.refl _ _).setp _ _
          have HG := (show Hid (NxR w0 w (w2.setCell ⟨p, 17, none⟩ (.int .i64 (n : Int))) p l a cap (.returned (.int .i64 5)) (stepF l 4 s)) from
            NxR.go HS.out rfl (HR2.out.1.turn hm3 (T' := T) (s' := { s with at_ := s.at_ + (x.length + 2), size := n }) (Rb.of (set_lst HR2.out.1.rb 17 _) rfl) rfl rfl ⟨hI.at_, hI.len, hI.head, hI.fields, hI.hs, hI.pcs, hI.sum, by simp only; omega, hI.sm⟩) ((HR2.out.2.trans hm3).toBl H.out.rb.lt))
          clear hc hlt HBad hb hI hm3 h0
          go_wp2
          go_ret
          exact HG.out
set_option maxRecDepth 20000 in
set_option maxHeartbeats 1000000 in
theorem trailer_any {w0 w : World} {p : Nat} {l : List UInt8} {s : St} {a : Option Addr} {cap : Nat} {T : Tl} {hv pv : Value} {xs : List Sl} (h : Rd w0 w p l s a cap T hv pv xs)
    (hD : ∀ w1 s' T hv pv xs, s'.pcs = s.pcs → Rd w0 w1 p l s' a cap T hv pv xs → Calls Tryz.prog 49 #[.pointer (some ⟨p, 0, none⟩)] w1 fun e w' => e = .returned (.int .i64 7) ∧ FinR w0 w' p (doneL s') ∧ Below p w1 w') :
    Calls Tryz.prog 28 #[.pointer (some ⟨p, 0, none⟩)] w fun e w' => NxR w0 w w' p l a cap e (stepF l 6 s) := by
  have HF := (show Hid _ from field_any h)
  have H := (show Hid _ from h)
  have HD := (show Hid _ from hD)
  clear h hD
  go_enter Tryz.func28, Tryz.ntmps28
  go_wp2_with fail
  refine Calls.mono HF.out ?_
  clear HF
  intro e w1 hfl
  cases hx : fldL l s with
  | fin t =>
    rw [hx] at hfl
    obtain ⟨rfl, hf, hb⟩ := hfl
    have HS : Hid (stepF l 6 s = .fin t) := by show _ = _; simp [stepF, hx]
    have HR := (show Hid _ from And.intro hf hb)
    clear hx hf hb
    go_wp2
    go_ret
    rw [HS.out]
    have hba : Below w1.heap.size w1 (w1.alloc (.cells #[.string ⟨#[]⟩, .string ⟨#[]⟩] 45)) := (Below.refl _ _).alloc (Nat.le_refl _) _
    exact ⟨rfl, HR.out.1.below hba, HR.out.2.trans (hba.mono (by obtain ⟨r, h1, _⟩ := HR.out.1; have := h1.lt; omega))⟩
  | ok s' z =>
    rw [hx] at hfl
    obtain ⟨rfl, hr, hm⟩ := hfl
    cases z with
    | none =>
      have HS : Hid (stepF l 6 s = .fin (doneL s')) := by show _ = _; simp [stepF, hx]
      have hba : Below w1.heap.size w1 (w1.alloc (.cells #[.string ⟨#[]⟩, .string ⟨#[]⟩] 45)) := (Below.refl _ _).alloc (Nat.le_refl _) _
      have K := (show Hid _ from HD.out _ _ _ _ _ _ (fld_keep hx).1 (hr.below hba))
      have HR := (show Hid (Below p w (w1.alloc (.cells #[.string ⟨#[]⟩, .string ⟨#[]⟩] 45))) from (hm.toBl H.out.rb.lt).trans (hba.mono (Nat.le_of_lt hr.rb.lt)))
      clear hx hr hm hba
      unfold hdV
      simp only [Option.getD_none]
      go_wp2_with fail
      refine Calls.mono K.out ?_
      rintro e w2 ⟨rfl, hf, hb⟩
      have HQ := (show Hid _ from And.intro hf hb)
      clear hf hb K
      go_wp2
      go_ret
      rw [HS.out]
      exact ⟨rfl, HQ.out.1, HR.out.trans HQ.out.2⟩
    | some z =>
      have HS : Hid (stepF l 6 s = .go 6 s') := by show _ = _; simp [stepF, hx]
      obtain ⟨hzn, -⟩ := fld_name hx H.out.inv.hs
      have hzb : (z.1 == []) = false := by rw [beq_eq_false_iff_ne]; exact hzn
      have HR := (show Hid _ from And.intro hr hm)
      clear hx hr hm hzn
      unfold hdV
      simp only [Option.getD_some]
      go_wp2
      go_ret
      have hba : Below w1.heap.size w1 (w1.alloc (.cells #[.string ⟨z.1.toArray⟩, .string ⟨z.2.toArray⟩] 45)) := (Below.refl _ _).alloc (Nat.le_refl _) _
      exact NxR.go HS.out rfl (HR.out.1.below hba) ((HR.out.2.toBl H.out.rb.lt).trans (hba.mono (Nat.le_of_lt HR.out.1.rb.lt)))
end Go.Proofs.YtmodmeabjhaklaaGreatDoor

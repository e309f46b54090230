/-
  The body, a chunk (reader.body, reader.chunk).
-/
import Derived.Test.YtmodmeabjhaklabGreatDoorDon
import Derived.Test.YtmodmeabjhaklabGreatDoorRunC
import Derived.Lib.SmallJoins
import Derived.Test.YtmodmeabjhaklabGreatDoorRunB
namespace Go.Proofs.YtmodmeabjhaklabGreatDoor
open Go.RowKit

/-- What holds besides at a state. -/
structure Inw (l : List UInt8) (q : Nat) (s : St) : Prop where
  fl : s.pcs.flatten.length = s.sum
  at2 : q ≠ 0 → 2 ≤ s.at_
  q3 : q ≤ 3 → s.pcs = []
  q5 : q = 5 → 1 ≤ s.size
theorem take_inv {l : List UInt8} {s : St} (hI : Inv l s) (h : ¬ l.length - s.at_ < s.size) (hp : s.pcs.length + 1 ≤ s.at_ + s.size) : Inv l (takeL l s) := by
  have h1 := hI.at_
  refine ⟨?_, hI.len, ?_, ?_, ?_, ?_, ?_, hI.size, hI.sm⟩
  · show s.at_ + s.size ≤ l.length
    omega
  · have := hI.head
    show s.head ≤ s.at_ + s.size
    omega
  · have := hI.fields
    show s.fields ≤ s.at_ + s.size
    omega
  · have := hI.hs
    show s.hs.length ≤ s.at_ + s.size
    omega
  · show (s.pcs ++ [_]).length ≤ s.at_ + s.size
    rw [List.length_append]
    exact hp
  · have := hI.sum
    show s.sum + s.size ≤ s.at_ + s.size
    omega
theorem take_fl {l : List UInt8} {s : St} (h : ¬ l.length - s.at_ < s.size) (hf : s.pcs.flatten.length = s.sum) : (takeL l s).pcs.flatten.length = (takeL l s).sum := by
  show (s.pcs ++ [(l.drop s.at_).take s.size]).flatten.length = s.sum + s.size
  rw [List.flatten_append, List.length_append, hf]
  simp
  omega
theorem step3_more {l : List UInt8} {s : St} (h : l.length - s.at_ < s.size) : stepF l 3 s = .fin .more := by simp [stepF, h]
theorem step3_done {l : List UInt8} {s : St} (h : ¬ l.length - s.at_ < s.size) : stepF l 3 s = .fin (doneL (takeL l s)) := by simp [stepF, h]
set_option maxRecDepth 20000 in
set_option maxHeartbeats 1000000 in
theorem body_any {w0 w : World} {p : Nat} {l : List UInt8} {s : St} {a : Option Addr} {cap : Nat} {T : Tl} {hv pv : Value} {xs : List Sl} (h : Rd w0 w p l s a cap T hv pv xs) (hw : Inw l 3 s) :
    Calls Tryz.prog 15 #[.pointer (some ⟨p, 0, none⟩)] w fun e w' => NxR w0 w w' p l a cap e (stepF l 3 s) := by
  have H := (show Hid _ from h)
  by_cases hlt : l.length - s.at_ < s.size
  · have HT := (show Hid _ from take_no h hlt)
    have HS : Hid (stepF l 3 s = .fin .more) := step3_more hlt
    clear h hlt hw
    go_enter Tryz.func15, Tryz.ntmps15
    go_wp2_with fail
    refine Calls.mono HT.out ?_
    rintro e w1 ⟨rfl, hr1, hb1⟩
    have K := (show Hid _ from more_any p _ w1 hr1.rb)
    have HB : Hid (Below p w w1 ∧ p < w1.heap.size) := ⟨hb1, hr1.rb.lt⟩
    clear hr1 hb1 HT
    go_wp2_with fail
    refine Calls.mono K.out ?_
    rintro e w2 ⟨rfl, hr2, hm2⟩
    have HR := (show Hid _ from And.intro hr2 hm2)
    clear hr2 hm2 K
    go_wp2
    go_ret
    exact NxR.fin HS.out rfl HR.out.1 rfl (HB.out.1.trans (HR.out.2.toBl HB.out.2)) H.out.bl H.out.lo
  · have hinv := take_inv h.inv hlt (by have := hw.at2 (by omega); rw [hw.q3 (by omega)]; simp; omega)
    have hfl := take_fl hlt hw.fl
    have HT := (show Hid _ from take_yes h hlt hinv)
    have HS : Hid (stepF l 3 s = .fin (doneL (takeL l s))) := step3_done hlt
    have hfb : (takeL l s).pcs.flatten.length ≤ 1000000000 := by rw [hfl]; have := hinv.sum; have := hinv.at_; have := hinv.len; omega
    have HFb : Hid ((takeL l s).pcs.flatten.length ≤ 1000000000) := hfb
    clear h hlt hw hinv hfl hfb
    go_enter Tryz.func15, Tryz.ntmps15
    go_wp2_with fail
    refine Calls.mono HT.out ?_
    rintro e w1 ⟨rfl, ⟨pv', xs', hr1⟩, hb1⟩
    have K := (show Hid _ from done_any hr1 HFb.out)
    have HB : Hid (Below p w w1) := hb1
    clear hr1 hb1 HT
    go_wp2_with fail
    refine Calls.mono K.out ?_
    rintro e w2 ⟨rfl, hr2, hb2⟩
    have HR := (show Hid _ from And.intro hr2 hb2)
    clear hr2 hb2 K
    go_wp2
    go_ret
    rw [HS.out]
    exact ⟨rfl, HR.out.1, HB.out.trans HR.out.2⟩
end Go.Proofs.YtmodmeabjhaklabGreatDoor
/-
  A chunk and the end behind it (reader.chunk).
-/
namespace Go.Proofs.YtmodmeabjhaklabGreatDoor
open Go.RowKit

theorem step5_more {l : List UInt8} {s : St} (h : l.length - s.at_ < s.size) : stepF l 5 s = .fin .more := by simp [stepF, h]
theorem step5_bad {l : List UInt8} {s : St} (h : ¬ l.length - s.at_ < s.size) (hp : ((l.drop (s.at_ + s.size)).take 2).isPrefixOf [13, 10] = false) : stepF l 5 s = .fin (.bad 308) := by
  simp only [stepF]
  rw [if_neg h, if_pos hp]
theorem step5_wait {l : List UInt8} {s : St} (h : ¬ l.length - s.at_ < s.size) (hp : ((l.drop (s.at_ + s.size)).take 2).isPrefixOf [13, 10] = true) (he : (l.drop (s.at_ + s.size)).take 2 ≠ [13, 10]) : stepF l 5 s = .fin .more := by
  simp only [stepF]
  rw [if_neg h, if_neg (by rw [hp]; simp), if_pos he]
theorem step5_go {l : List UInt8} {s : St} (h : ¬ l.length - s.at_ < s.size) (hp : ((l.drop (s.at_ + s.size)).take 2).isPrefixOf [13, 10] = true) (he : (l.drop (s.at_ + s.size)).take 2 = [13, 10]) : stepF l 5 s = .go 4 { takeL l s with at_ := s.at_ + s.size + 2 } := by
  simp only [stepF]
  rw [if_neg h, if_neg (by rw [hp]; simp), if_neg (by simp [he])]
set_option maxRecDepth 20000 in
set_option maxHeartbeats 2000000 in
theorem chunk_any {w0 w : World} {p : Nat} {l : List UInt8} {s : St} {a : Option Addr} {cap : Nat} {T : Tl} {hv pv : Value} {xs : List Sl} (h : Rd w0 w p l s a cap T hv pv xs) (hw : Inw l 5 s) :
    Calls Tryz.prog 17 #[.pointer (some ⟨p, 0, none⟩)] w fun e w' => NxR w0 w w' p l a cap e (stepF l 5 s) := by
  have H := (show Hid _ from h)
  by_cases hlt : l.length - s.at_ < s.size
  · have HT := (show Hid _ from take_no h hlt)
    have HS : Hid (stepF l 5 s = .fin .more) := step5_more hlt
    clear h hlt hw
    go_enter Tryz.func17, Tryz.ntmps17
    go_wp2_with fail
    refine Calls.mono HT.out ?_
    rintro e w1 ⟨rfl, hr1, hb1⟩
    have K := (show Hid _ from more_any p _ w1 hr1.rb)
    have HB : Hid (Below p w w1 ∧ p < w1.heap.size) := ⟨hb1, hr1.rb.lt⟩
    clear hr1 hb1 HT
    go_wp2_with fail
    refine Calls.mono K.out ?_
    rintro e w2 ⟨rfl, hr2, hm2⟩
    have HR := (show Hid _ from And.intro hr2 hm2)
    clear hr2 hm2 K
    go_wp2
    go_ret
    exact NxR.fin HS.out rfl HR.out.1 rfl (HB.out.1.trans (HR.out.2.toBl HB.out.2)) H.out.bl H.out.lo
  · have hinv := take_inv h.inv hlt (by have := hw.q5 rfl; have := h.inv.pcs; omega)
    have HT := (show Hid _ from take_yes h hlt hinv)
    have HLT : Hid (¬ l.length - s.at_ < s.size) := hlt
    have hk1 : s.at_ + s.size ≤ l.length := hinv.at_
    have hl9 := hinv.len
    have hcap := h.cap
    have HI := (show Hid _ from hinv)
    clear h hlt hw hinv
    go_enter Tryz.func17, Tryz.ntmps17
    go_wp2_with fail
    refine Calls.mono HT.out ?_
    rintro e w1 ⟨rfl, ⟨pv', xs', hr1⟩, hb1⟩
    clear HT
    obtain ⟨k, hk⟩ : ∃ k, k = s.at_ + s.size := ⟨_, rfl⟩
    have c0 : w1.cell? ⟨p, 0, none⟩ = some (.slice a l.length cap) := hr1.rb.cell 0 rfl
    have c1 : w1.cell? ⟨p, 1, none⟩ = some (.int .i64 (k : Int)) := by rw [hk]; exact hr1.rb.cell 1 rfl
    have hki : (k : Int) ≤ (l.length : Int) := by omega
    have hk0 : (0 : Int) ≤ (k : Int) := by omega
    have hci : (l.length : Int) ≤ (cap : Int) := by omega
    have hlen : (l.drop k).length = l.length - k := by simp
    have HK : Hid (k = s.at_ + s.size) := hk
    have HR1 := (show Hid _ from And.intro hr1 hb1)
    clear hr1 hb1 hk1 hk
    go_wp2
    go_quiet (fail)
    have HW : Hid (Below w1.heap.size w1 (w1.drewN nq)) := drewN_below w1 nq
    generalize w1.drewN nq = W at *
    rw [show (if cap = k then a else Option.map (fun x => x.add k) a) = fromA a cap k from rfl, ← hlen]
    have HBy : Hid (Bytes W (fromA a cap k) (l.drop k)) := bytes_from (HR1.out.1.bytes.below HW.out (Nat.le_refl _)) HR1.out.1.cap
    obtain ⟨A, hA⟩ : ∃ A, A = fromA a cap k := ⟨_, rfl⟩
    rw [← hA] at HBy ⊢
    clear hA
    obtain ⟨c, hc⟩ : ∃ c, c = cap - k := ⟨_, rfl⟩
    rw [← hc]
    obtain ⟨rest, hrest⟩ : ∃ rest, rest = l.drop k := ⟨_, rfl⟩
    rw [← hrest] at hlen HBy ⊢
    have hrc : rest.length ≤ c := by omega
    have hr9 : rest.length ≤ 1000000000 := by omega
    have HRE : Hid (rest = l.drop (s.at_ + s.size)) := by show _ = _; rw [hrest, HK.out]
    clear hc hrest hlen c0 c1 hki hk0 hci
    have hrW := HR1.out.1.below HW.out
    have hbW : Below p w W := HR1.out.2.trans (HW.out.mono (Nat.le_of_lt HR1.out.1.rb.lt))
    have HRW := (show Hid _ from And.intro hrW hbW)
    clear hrW hbW
    obtain ⟨E, hE⟩ : ∃ E, E = rest.take 2 := ⟨_, rfl⟩
    have hEl : E.length = min rest.length 2 := by rw [hE, List.length_take, Nat.min_comm]
    have hcv : (convert 22 9 (.slice A E.length c)).run Tryz.prog W = .ok (.string ⟨E.toArray⟩) W := by
      rw [hE]
      exact convert_bytes W A c (rest.take 2) (bytes_take HBy.out 2)
    have hmin : min (rest.length : Int) 2 = (E.length : Int) := by rw [hEl]; omega
    have hEc : (E.length : Int) ≤ (c : Int) := by omega
    have hEr : (E.length : Int) ≤ (rest.length : Int) := by omega
    have hE0 : (0 : Int) ≤ (E.length : Int) := by omega
    have HEE : Hid (E = (l.drop (s.at_ + s.size)).take 2) := by show _ = _; rw [hE, HRE.out]
    clear hE hEl
    have HP := (show Hid _ from YtmodmeabjhaklabGreatDoor.strings_HasPrefix ⟨#[13, 10]⟩ ⟨E.toArray⟩ W)
    simp only [hp_eq] at HP
    clear hcap hl9
    go_wp2_with fail
    refine Calls.mono HP.out ?_
    rintro e Wx ⟨rfl, hWx⟩
    have hWy := hWx.symm
    subst hWy
    clear HP hcv hmin hEc hEr hE0 HBy
    cases hpx : E.isPrefixOf [13, 10] with
    | false =>
      have HS : Hid (stepF l 5 s = .fin (.bad 308)) := step5_bad HLT.out (by rw [← HEE.out]; exact hpx)
      have K := (show Hid _ from bad_any p _ 308 W HRW.out.1.rb)
      clear hpx
      go_wp2_with fail
      refine Calls.mono K.out ?_
      rintro e w2 ⟨rfl, hr2, hm2⟩
      have HR := (show Hid _ from And.intro hr2 hm2)
      clear hr2 hm2 K
      go_wp2
      go_ret
      exact NxR.fin HS.out rfl HR.out.1 rfl (HRW.out.2.trans (HR.out.2.toBl HRW.out.1.rb.lt)) H.out.bl H.out.lo
    | true =>
      by_cases he : E = [13, 10]
      · have HS : Hid (stepF l 5 s = .go 4 { takeL l s with at_ := s.at_ + s.size + 2 }) := step5_go HLT.out (by rw [← HEE.out]; exact hpx) (by rw [← HEE.out]; exact he)
        have heb : (E == [13, 10]) = true := by rw [he]; rfl
        have hroom : s.at_ + s.size + 2 ≤ l.length := by
          have h1 := congrArg List.length HEE.out
          rw [he, List.length_take, List.length_drop] at h1
          simp at h1
          omega
        have c1 : W.cell? ⟨p, 1, none⟩ = some (.int .i64 ((s.at_ + s.size : Nat) : Int)) := HRW.out.1.rb.cell 1 rfl
        have f1 := HRW.out.1.rb.fz 1
        have hb9 : s.at_ + s.size ≤ 1000000000 := by have := HI.out.len; omega
        have hm3 : Md (· = p) W (W.setCell ⟨p, 1, none⟩ (.int .i64 (((s.at_ + s.size : Nat) : Int) + 2))) := (Md.refl _ _).setp _ _
        have hI := HI.out
        have HG := (show Hid (NxR w0 w (W.setCell ⟨p, 1, none⟩ (.int .i64 (((s.at_ + s.size : Nat) : Int) + 2))) p l a cap (.returned (.int .i64 4)) (stepF l 5 s)) from
          NxR.go HS.out rfl (HRW.out.1.turn hm3 (T' := T) (s' := { takeL l s with at_ := s.at_ + s.size + 2 }) (Rb.of (set_lst HRW.out.1.rb 1 _) rfl) rfl rfl ⟨hroom, hI.len, Nat.le_trans hI.head (by simp [takeL]), Nat.le_trans hI.fields (by simp [takeL]), Nat.le_trans hI.hs (by simp [takeL]), Nat.le_trans hI.pcs (by simp [takeL]), Nat.le_trans hI.sum (by simp [takeL]), hI.size, hI.sm⟩) (HRW.out.2.trans (hm3.toBl HRW.out.1.rb.lt)))
        clear hpx he hm3 hI hroom
        obtain ⟨k2, hk2⟩ : ∃ k2, k2 = s.at_ + s.size := ⟨_, rfl⟩
        rw [← hk2] at c1 HG hb9
        clear hk2
        go_wp2
        go_ret
        exact HG.out
      · have HS : Hid (stepF l 5 s = .fin .more) := step5_wait HLT.out (by rw [← HEE.out]; exact hpx) (by rw [← HEE.out]; exact he)
        have heb : (E == [13, 10]) = false := by rw [beq_eq_false_iff_ne]; exact he
        have K := (show Hid _ from more_any p _ W HRW.out.1.rb)
        clear hpx he
        go_wp2_with fail
        refine Calls.mono K.out ?_
        rintro e w2 ⟨rfl, hr2, hm2⟩
        have HR := (show Hid _ from And.intro hr2 hm2)
        clear hr2 hm2 K
        go_wp2
        go_ret
        exact NxR.fin HS.out rfl HR.out.1 rfl (HRW.out.2.trans (HR.out.2.toBl HRW.out.1.rb.lt)) H.out.bl H.out.lo
end Go.Proofs.YtmodmeabjhaklabGreatDoor
/-
  http.Parse of any bytes.
-/
namespace Go.Proofs.YtmodmeabjhaklabGreatDoor
open Go.RowKit

theorem inw_step {l : List UInt8} {q q' : Nat} {s s' : St} (h : stepF l q s = .go q' s') (hw : Inw l q s) : Inw l q' s' ∧ q' ≤ 6 := by
  have hf := hw.fl
  unfold stepF at h
  split at h
  · split at h
    · cases h
    · cases h
    · split at h
      · cases h
      · simp only [Nx.go.injEq] at h
        obtain ⟨rfl, rfl⟩ := h
        exact ⟨⟨hf, fun _ => by simp only; omega, fun _ => hw.q3 (by omega), fun h => by omega⟩, by omega⟩
  · have ha := hw.at2 (by omega)
    split at h
    · cases h
    · next s1 hx =>
      have hk := fld_keep hx
      have hg := fld_go hx
      simp only [Nx.go.injEq] at h
      obtain ⟨rfl, rfl⟩ := h
      exact ⟨⟨by rw [hk.1, hk.2.1]; exact hf, fun _ => by omega, fun _ => by rw [hk.1]; exact hw.q3 (by omega), fun h => by omega⟩, by omega⟩
    · next s1 x hx =>
      have hk := fld_keep hx
      have hg := fld_go hx
      simp only [Nx.go.injEq] at h
      obtain ⟨rfl, rfl⟩ := h
      exact ⟨⟨by show s1.pcs.flatten.length = s1.sum; rw [hk.1, hk.2.1]; exact hf, fun _ => by show 2 ≤ s1.at_; omega, fun _ => by show s1.pcs = []; rw [hk.1]; exact hw.q3 (by omega), fun h => by omega⟩, by omega⟩
  · have ha := hw.at2 (by omega)
    split at h
    · cases h
    · split at h
      · simp only [Nx.go.injEq] at h
        obtain ⟨rfl, rfl⟩ := h
        exact ⟨⟨hf, fun _ => ha, fun h => by omega, fun h => by omega⟩, by omega⟩
      · simp only [Nx.go.injEq] at h
        obtain ⟨rfl, rfl⟩ := h
        exact ⟨⟨hf, fun _ => ha, fun _ => hw.q3 (by omega), fun h => by omega⟩, by omega⟩
  · split at h <;> cases h
  · have ha := hw.at2 (by omega)
    split at h
    · cases h
    · cases h
    · split at h
      · cases h
      · split at h
        · cases h
        · split at h
          · simp only [Nx.go.injEq] at h
            obtain ⟨rfl, rfl⟩ := h
            exact ⟨⟨hf, fun _ => by simp only; omega, fun h => by omega, fun h => by omega⟩, by omega⟩
          · next h0 =>
            simp only [Nx.go.injEq] at h
            obtain ⟨rfl, rfl⟩ := h
            exact ⟨⟨hf, fun _ => by simp only; omega, fun h => by omega, fun _ => by simp only; omega⟩, by omega⟩
  · have ha := hw.at2 (by omega)
    split at h
    · cases h
    · next hlt =>
      simp only at h
      split at h
      · cases h
      · split at h
        · cases h
        · simp only [Nx.go.injEq] at h
          obtain ⟨rfl, rfl⟩ := h
          exact ⟨⟨take_fl hlt hf, fun _ => by simp only; omega, fun h => by omega, fun h => by omega⟩, by omega⟩
  · have ha := hw.at2 (by omega)
    split at h
    · cases h
    · cases h
    · next s1 x hx =>
      have hk := fld_keep hx
      have hg := fld_go hx
      simp only [Nx.go.injEq] at h
      obtain ⟨rfl, rfl⟩ := h
      exact ⟨⟨by rw [hk.1, hk.2.1]; exact hf, fun _ => by omega, fun h => by omega, fun h => by omega⟩, by omega⟩
  · cases h

/-- What the loop holds. -/
def Lp (w0 W : World) (p : Nat) (l : List UInt8) (a : Option Addr) (cap : Nat) (v : Value) (wr : World) : Prop :=
  Below p W wr ∧ ((v = .int .i64 7 ∧ FinR w0 wr p (parseL l)) ∨ ∃ (q : Nat) (s : St) (n : Nat) (T : Tl) (hv pv : Value) (xs : List Sl), v = .int .i64 (q : Int) ∧ q ≤ 6 ∧ Rd w0 wr p l s a cap T hv pv xs ∧ Inw l q s ∧ mu l q s ≤ n ∧ runF l n q s = parseL l)
def atOf (wr : World) (p : Nat) : Nat := (intOf ((wr.cell? ⟨p, 1, none⟩).getD undef)).toNat
def rank (q : Int) : Nat := if q = 0 then 5 else if q = 1 then 4 else if q = 2 then 3 else if q = 4 then 2 else 1
def meas (l : List UInt8) (p : Nat) (v : Value) (wr : World) : Nat := if intOf v = 7 then 0 else 2 * (l.length - atOf wr p) + rank (intOf v)
theorem meas_eq {w0 wr : World} {p : Nat} {l : List UInt8} {q : Nat} {s : St} {a : Option Addr} {cap : Nat} {T : Tl} {hv pv : Value} {xs : List Sl} (h : Rd w0 wr p l s a cap T hv pv xs) (hq : q ≤ 6) : meas l p (.int .i64 (q : Int)) wr = mu l q s := by
  have hc : wr.cell? ⟨p, 1, none⟩ = some (.int .i64 (s.at_ : Int)) := h.rb.cell 1 rfl
  have ha : atOf wr p = s.at_ := by unfold atOf; rw [hc]; simp [intOf]
  unfold meas mu
  rw [ha]
  have : q = 0 ∨ q = 1 ∨ q = 2 ∨ q = 3 ∨ q = 4 ∨ q = 5 ∨ q = 6 := by omega
  rcases this with rfl | rfl | rfl | rfl | rfl | rfl | rfl <;> simp [intOf, rank]
/-- What a step makes of the loop's state. -/
theorem lp_step {w0 W wr w' : World} {p : Nat} {l : List UInt8} {q n : Nat} {s : St} {a : Option Addr} {cap : Nat} {T : Tl} {hv pv : Value} {xs : List Sl} {e : Ending} (hb : Below p W wr) (h : Rd w0 wr p l s a cap T hv pv xs) (hq : q ≤ 6) (hw : Inw l q s) (hn : mu l q s ≤ n) (hr : runF l n q s = parseL l) (hx : NxR w0 wr w' p l a cap e (stepF l q s)) :
    ∃ v', e = .returned v' ∧ Lp w0 W p l a cap v' w' ∧ meas l p v' w' < meas l p (.int .i64 (q : Int)) wr := by
  rw [meas_eq h hq]
  have hpos : 0 < mu l q s := by
    unfold mu
    have : q = 0 ∨ q = 1 ∨ q = 2 ∨ q = 3 ∨ q = 4 ∨ q = 5 ∨ q = 6 := by omega
    rcases this with rfl | rfl | rfl | rfl | rfl | rfl | rfl <;> simp <;> omega
  obtain ⟨n', rfl⟩ : ∃ n', n = n' + 1 := ⟨n - 1, by omega⟩
  cases hs : stepF l q s with
  | fin t =>
    rw [hs] at hx
    obtain ⟨rfl, h1, h2⟩ := hx
    have ht : t = parseL l := by rw [← hr, runF, hs]
    refine ⟨_, rfl, ⟨hb.trans h2, .inl ⟨rfl, ht ▸ h1⟩⟩, ?_⟩
    simp [meas, intOf]
    omega
  | go q' s' =>
    rw [hs] at hx
    obtain ⟨rfl, ⟨T', hv', pv', xs', h1⟩, h2⟩ := hx
    obtain ⟨hw', hq'⟩ := inw_step hs hw
    have hmu := mu_step hs (fun h5 => hw.q5 h5)
    have hr' : runF l n' q' s' = parseL l := by rw [← hr, runF, hs]
    refine ⟨_, rfl, ⟨hb.trans h2, .inr ⟨q', s', n', T', hv', pv', xs', rfl, hq', h1, hw', by omega, hr'⟩⟩, ?_⟩
    rw [meas_eq h1 hq']
    exact hmu
end Go.Proofs.YtmodmeabjhaklabGreatDoor
/-
  http.Parse of any bytes: the walk.
-/
namespace Go.Proofs.YtmodmeabjhaklabGreatDoor
open Go.RowKit

/-- A state's method. -/
theorem step_any {w0 W wr : World} {p : Nat} {l : List UInt8} {q n : Nat} {s : St} {a : Option Addr} {cap : Nat} {T : Tl} {hv pv : Value} {xs : List Sl} (hb : Below p W wr) (h : Rd w0 wr p l s a cap T hv pv xs) (hq : q ≤ 6) (hw : Inw l q s) (hn : mu l q s ≤ n) (hr : runF l n q s = parseL l) :
    Calls Tryz.prog (12 + q) #[.pointer (some ⟨p, 0, none⟩)] wr fun e w' => ∃ v', e = .returned v' ∧ Lp w0 W p l a cap v' w' ∧ meas l p v' w' < meas l p (.int .i64 (q : Int)) wr := by
  have key : Calls Tryz.prog (12 + q) #[.pointer (some ⟨p, 0, none⟩)] wr fun e w' => NxR w0 wr w' p l a cap e (stepF l q s) := by
    have : q = 0 ∨ q = 1 ∨ q = 2 ∨ q = 3 ∨ q = 4 ∨ q = 5 ∨ q = 6 := by omega
    rcases this with rfl | rfl | rfl | rfl | rfl | rfl | rfl
    · exact requestLine_any h
    · exact header_any h
    · exact headEnd_any h
    · exact body_any h hw
    · exact chunkLine_any h
    · exact chunk_any h hw
    · refine trailer_any h (fun w1 s' T hv pv xs hp h1 => ?_)
      refine done_any h1 ?_
      rw [hp, hw.fl]
      have := h.inv.sum
      have := h.inv.at_
      have := h.inv.len
      omega
  exact key.mono fun e w' hx => lp_step hb h hq hw hn hr hx
theorem TlR.form {w : World} {base : Nat} {t : Tl} {T : Tld} (h : TlR w base t T) : (∃ x y z, t.h = .slice x y z) ∧ ∃ x y z, t.b = .slice x y z := by
  cases T with
  | more => rw [show t = moreT from h]; exact ⟨⟨_, _, _, rfl⟩, ⟨_, _, _, rfl⟩⟩
  | bad e => rw [show t = badT e from h]; exact ⟨⟨_, _, _, rfl⟩, ⟨_, _, _, rfl⟩⟩
  | done u m tt hs b cl co =>
    obtain ⟨hv, bv, rfl, h2, h3⟩ := h
    obtain ⟨a, c, h4⟩ := own_slice h2
    obtain ⟨a', c', h5⟩ := own_slice h3
    exact ⟨⟨_, _, _, h4⟩, ⟨_, _, _, h5⟩⟩
theorem TlR.fin {w w' : World} {base base' N : Nat} {t : Tl} {T : Tld} (h : TlR w base t T) (hm : Md (· = N) w w') (hN : N < base) (hb : base' ≤ base) : TlR w' base' t T := by
  cases T with
  | more => exact h
  | bad e => exact h
  | done u m tt hs b cl co =>
    obtain ⟨hv, bv, h1, h2, h3⟩ := h
    exact ⟨hv, bv, h1, own_le (own_md h2 hm (fun j hj => by have := (h2.lt j hj).1; omega)) hb, own_le (own_md h3 hm (fun j hj => by have := (h3.lt j hj).1; omega)) hb⟩
set_option maxRecDepth 20000 in
set_option maxHeartbeats 2000000 in
theorem parse_any (a : Option Addr) (l : List UInt8) (cap : Nat) (w : World) (hcap : l.length ≤ cap) (hB : Bytes w a l) (hab : ∀ x, a = some x → x.spot = none ∧ x.block < w.heap.size) (han : a = none → cap = 0) (hl : l.length ≤ 1000000000) (hm : Mx w) (he : Er w) :
    Calls Tryz.prog 6 #[.slice a l.length cap] w fun e w' => ∃ T : Tl, e = .returned T.v ∧ TlR w' w.heap.size T (parseL l) ∧ Below w.heap.size w w' := by
  obtain ⟨N, hN⟩ : ∃ N, N = w.heap.size := ⟨_, rfl⟩
  obtain ⟨W1, hW1⟩ : ∃ W1, W1 = w.alloc (.cells #[.int .i64 0, .int .i64 0, .string ⟨#[]⟩, .string ⟨#[]⟩, .slice none 0 0, .slice none 0 0, .int .i64 0, .bool false, .bool false] 28) := ⟨_, rfl⟩
  obtain ⟨W, hW⟩ : ∃ W, W = W1.alloc (.cells #[.slice a l.length cap, .int .i64 0, .int .i64 0, .int .i64 0, .string ⟨#[]⟩, .string ⟨#[]⟩, .slice none 0 0, .slice none 0 0, .int .i64 0, .bool false, .bool false, .int .i64 0, .int .i64 0, .string ⟨#[]⟩, .string ⟨#[]⟩, .slice none 0 0, .slice none 0 0, .int .i64 0, .slice none 0 0, .int .i64 0] 47) := ⟨_, rfl⟩
  have hs1 : W1.heap.size = N + 1 := by rw [hW1, hN]; show (w.heap.push _).size = _; simp
  have hbW : Below w.heap.size w W := by rw [hW, hW1]; exact ((Below.refl _ _).alloc (Nat.le_refl _) _).alloc (by simp) _
  have hrb : Rb W (N + 1) (rsOf st0 (.slice a l.length cap) zeroT (.slice none 0 0) (.slice none 0 0)) := by rw [← hs1, hW]; exact heap_alloc_new W1 _
  have hnb : W.heap[N]? = some (.cells #[.int .i64 0, .int .i64 0, .string ⟨#[]⟩, .string ⟨#[]⟩, .slice none 0 0, .slice none 0 0, .int .i64 0, .bool false, .bool false] 28 (0, 0)) := by
    rw [hW]
    have h1 : W1.heap[N]? = some (.cells #[.int .i64 0, .int .i64 0, .string ⟨#[]⟩, .string ⟨#[]⟩, .slice none 0 0, .slice none 0 0, .int .i64 0, .bool false, .bool false] 28 (0, 0)) := by rw [hN, hW1]; exact heap_alloc_new w _
    exact (Below.heap_alloc W1 _ N (by omega)).trans h1
  have hRd : Rd w W (N + 1) l st0 a cap zeroT (.slice none 0 0) (.slice none 0 0) [] := ⟨hrb, han, hcap, hB, hab, by omega, hbW, World.ownsRow_nil _ _ _ _, World.ownsRow_nil _ _ _ _, rfl, (fun x hx => by cases hx), hm, he, ⟨Nat.zero_le _, hl, Nat.le_refl _, Nat.le_refl _, Nat.le_refl _, Nat.le_refl _, Nat.le_refl _, Nat.zero_le _, (fun x hx => by cases hx)⟩⟩
  have HL0 : Hid (Lp w W (N + 1) l a cap (.int .i64 0) W) := ⟨Below.refl _ _, .inr ⟨0, st0, 2 * l.length + 6, zeroT, _, _, [], rfl, by omega, hRd, ⟨rfl, fun h => absurd rfl h, fun _ => rfl, fun h => by omega⟩, by simp only [mu, st0]; omega, rfl⟩⟩
  have HNB := (show Hid _ from And.intro hnb hbW)
  have HN : Hid (N = w.heap.size) := hN
  clear hRd hrb hnb hB hab han hm he hcap hbW
  go_enter Tryz.func6, Tryz.ntmps6
  go_wp2
  refine wp_scope_straight ?_
  go_wp2
  refine wp_label ?_
  rw [← hN, ← hW1, ← hW]
  clear hN hW1 hW hs1
  obtain ⟨p, hp⟩ : ∃ p, p = N + 1 := ⟨_, rfl⟩
  rw [← hp] at HL0 ⊢
  have HP : Hid (p = N + 1) := hp
  clear hp
  go_wp2
  go_loopw [4] (fun v wr => Lp w W p l a cap v wr) (fun v wr => meas l p v wr)
  case atStart => exact HL0.out
  case round =>
    obtain ⟨hb, ⟨rfl, hf⟩ | ⟨q, s, n, T, hv, pv, xs, rfl, hq, hr, hw, hn, hrun⟩⟩ := hrel
    · obtain ⟨r, hr, ht, hbl⟩ := hf
      have hnr : wr.heap[N]? = some (.cells #[.int .i64 0, .int .i64 0, .string ⟨#[]⟩, .string ⟨#[]⟩, .slice none 0 0, .slice none 0 0, .int .i64 0, .bool false, .bool false] 28 (0, 0)) := (hb.block N (by have := HP.out; omega)).trans HNB.out.1
      have HF := (show Hid _ from And.intro ht hbl)
      have c2 : wr.cell? ⟨p, 2, none⟩ = some (.int .i64 r.told.kind) := hr.cell 2 rfl
      have c3 : wr.cell? ⟨p, 3, none⟩ = some (.int .i64 r.told.used) := hr.cell 3 rfl
      have c4 : wr.cell? ⟨p, 4, none⟩ = some (.string r.told.m) := hr.cell 4 rfl
      have c5 : wr.cell? ⟨p, 5, none⟩ = some (.string r.told.t) := hr.cell 5 rfl
      have c6 : wr.cell? ⟨p, 6, none⟩ = some r.told.h := hr.cell 6 rfl
      have c7 : wr.cell? ⟨p, 7, none⟩ = some r.told.b := hr.cell 7 rfl
      obtain ⟨⟨x1, y1, z1, hth⟩, ⟨x2, y2, z2, htb⟩⟩ := ht.form
      rw [hth] at c6
      rw [htb] at c7
      have HTV : Hid (r.told.v = .agg #[.int .i64 r.told.kind, .int .i64 r.told.used, .string r.told.m, .string r.told.t, .slice x1 y1 z1, .slice x2 y2 z2, .int .i64 r.told.fault, .bool r.told.cl, .bool r.told.co]) := by show _ = _; rw [Tl.v, hth, htb]
      clear hth htb
      have c8 : wr.cell? ⟨p, 8, none⟩ = some (.int .i64 r.told.fault) := hr.cell 8 rfl
      have c9 : wr.cell? ⟨p, 9, none⟩ = some (.bool r.told.cl) := hr.cell 9 rfl
      have c10 : wr.cell? ⟨p, 10, none⟩ = some (.bool r.told.co) := hr.cell 10 rfl
      have d0 := cell_blk hnr 0
      have d1 := cell_blk hnr 1
      have d2 := cell_blk hnr 2
      have d3 := cell_blk hnr 3
      have d4 := cell_blk hnr 4
      have d5 := cell_blk hnr 5
      have d6 := cell_blk hnr 6
      have d7 := cell_blk hnr 7
      have d8 := cell_blk hnr 8
      have g0 := frozen_blk hnr 0
      have g1 := frozen_blk hnr 1
      have g2 := frozen_blk hnr 2
      have g3 := frozen_blk hnr 3
      have g4 := frozen_blk hnr 4
      have g5 := frozen_blk hnr 5
      have g6 := frozen_blk hnr 6
      have g7 := frozen_blk hnr 7
      have g8 := frozen_blk hnr 8
      simp at d0 d1 d2 d3 d4 d5 d6 d7 d8
      clear hr hnr ht hbl hb
      go_wp2
      simp (config := { zetaDelta := true }) only [Exit.noGoto]
      refine bodyPost_ret (v := .agg #[.int .i64 r.told.kind, .int .i64 r.told.used, .string r.told.m, .string r.told.t, .slice x1 y1 z1, .slice x2 y2 z2, .int .i64 r.told.fault, .bool r.told.cl, .bool r.told.co]) (by simp [results, Tryz.results6, go_sem, d0, d1, d2, d3, d4, d5, d6, d7, d8]) rfl ?_
      have hmN : Md (· = N) wr (((((((((wr.setCell ⟨N, 0, none⟩ (.int .i64 r.told.kind)).setCell ⟨N, 1, none⟩ (.int .i64 r.told.used)).setCell ⟨N, 2, none⟩ (.string r.told.m)).setCell ⟨N, 3, none⟩ (.string r.told.t)).setCell ⟨N, 4, none⟩ (.slice x1 y1 z1)).setCell ⟨N, 5, none⟩ (.slice x2 y2 z2)).setCell ⟨N, 6, none⟩ (.int .i64 r.told.fault)).setCell ⟨N, 7, none⟩ (.bool r.told.cl)).setCell ⟨N, 8, none⟩ (.bool r.told.co)) := by
        iterate 9 refine Md.setp ?_ _ _
        exact Md.refl _ _
      refine ⟨r.told, by rw [HTV.out], HF.out.1.fin hmN (by have := HP.out; omega) (by have := HP.out; have := HN.out; omega), ?_⟩
      have hb0 := HF.out.2
      exact ⟨hmN.os.trans hb0.os, hmN.tape.trans hb0.tape, hmN.output.trans hb0.output, Nat.le_trans hb0.size hmN.size, fun b hlt => (hmN.block b (by have := hb0.size; omega) (by have := HN.out; omega)).trans (hb0.block b hlt)⟩
    · have K := (show Hid _ from step_any hb hr hq hw hn hrun)
      clear hb hr hw hn hrun
      have hq7 : q = 0 ∨ q = 1 ∨ q = 2 ∨ q = 3 ∨ q = 4 ∨ q = 5 ∨ q = 6 := by omega
      clear hq
      rcases hq7 with rfl | rfl | rfl | rfl | rfl | rfl | rfl
      all_goals
        go_wp2_with fail
        refine Calls.mono K.out ?_
        rintro e w' ⟨v', rfl, hlp, hms⟩
        have HLP := (show Hid _ from And.intro hlp hms)
        clear hlp hms K
        go_wp2
        go_roundw
        case rel => exact HLP.out.1
        case measure => exact HLP.out.2
end Go.Proofs.YtmodmeabjhaklabGreatDoor
/-
  What the three requests that the laws fix are read as.
-/
namespace Go.Proofs.YtmodmeabjhaklabGreatDoor
open Go.RowKit
def aw1 : List UInt8 := [71, 69, 84, 32, 47, 32, 72, 84, 84, 80, 47, 49, 46, 49, 13, 10, 72, 111, 115, 116, 58, 32, 97, 13, 10, 13, 10, 109, 111, 114, 101]
def aw2 : List UInt8 := [71, 69, 84, 32, 47, 32, 72, 84, 84, 80, 47, 49, 46, 48, 13, 10]
def aw3 : List UInt8 := [71, 69]
theorem aw1_eq : parseL aw1 = .done 27 [71, 69, 84] [47] [([104, 111, 115, 116], [97])] [] false false := by kernel_rfl
theorem aw2_eq : parseL aw2 = .bad 340 := by kernel_rfl
theorem aw3_eq : parseL aw3 = .more := by kernel_rfl
end Go.Proofs.YtmodmeabjhaklabGreatDoor
/-
  'awake' of the statements' package: what the document fixes.
-/
namespace Go.Proofs.YtmodmeabjhaklabGreatDoor
open Go.RowKit

theorem const_bytes (w : World) (L : List UInt8) (fr : Nat × Nat) : Bytes (w.alloc (.cells (bcs L).toArray 5 fr)) (some ⟨w.heap.size, 0, none⟩) L := by
  refine .inr ⟨w.heap.size, 0, rfl, ?_, fun j hj => ?_⟩
  · show w.heap.size < (w.heap.push _).size
    simp
  · rw [Nat.zero_add, World.cell?_alloc_mark, List.getElem?_toArray]
    exact bcs_get hj
theorem conv_at (w : World) (t e : TypeId) (C : Array Value) (n c g : Nat) (hg : g = w.heap.size) (ht : Tryz.prog.underlying t = some (.slice e)) (he : Tryz.prog.underlying e = some (.int .u8)) :
    (convert t t (.slice (some ⟨g, 0, none⟩) n c)).run Tryz.prog (w.alloc (.cells C e)) = .ok (.slice (some ⟨g, 0, none⟩) n c) (w.alloc (.cells C e (C.size, C.size + 1))) := by
  subst hg
  exact Lib.run_convert_bytes_const w t e C n c ht he
/-- Parse of a constant. -/
theorem parse_const (L : List UInt8) (fr : Nat × Nat) (w : World) (hl : L.length ≤ 1000000000) (hm : Mx w) (he : Er w) :
    Calls Tryz.prog 6 #[.slice (some ⟨w.heap.size, 0, none⟩) L.length L.length] (w.alloc (.cells (bcs L).toArray 5 fr)) fun e w' => ∃ T : Tl, e = .returned T.v ∧ TlR w' w.heap.size T (parseL L) ∧ Below w.heap.size w w' := by
  have hb : Below w.heap.size w (w.alloc (.cells (bcs L).toArray 5 fr)) := (Below.refl _ _).alloc (Nat.le_refl _) _
  have hs : (w.alloc (.cells (bcs L).toArray 5 fr)).heap.size = w.heap.size + 1 := by show (w.heap.push _).size = _; simp
  refine (parse_any (some ⟨w.heap.size, 0, none⟩) L L.length _ (Nat.le_refl _) (const_bytes w L fr) (fun x hx => ?_) (fun h => by cases h) hl (hm.below hb (Nat.le_refl _)) (he.below hb (Nat.le_refl _))).mono ?_
  · simp only [Option.some.injEq] at hx
    subst hx
    exact ⟨rfl, by rw [hs]; simp⟩
  · rintro e w' ⟨T, h1, h2, h3⟩
    refine ⟨T, h1, ?_, hb.trans (h3.mono (by omega))⟩
    exact h2.fin (Md.refl (· = 0) _) (by omega) (by omega)
set_option maxRecDepth 20000 in
set_option maxHeartbeats 2000000 in
theorem awake_any (w : World) (hm : Mx w) (he : Er w) : Calls Tryz.prog 9 #[] w fun e w' => e = .returned (.bool true) ∧ Below w.heap.size w w' := by
  have HM : Hid (Mx w ∧ Er w) := ⟨hm, he⟩
  have K1 := (show Hid _ from parse_const aw1 (31, 32) w (by decide) hm he)
  rw [aw1_eq] at K1
  have hc1 : (convert 22 22 (.slice (some ⟨w.heap.size, 0, none⟩) 31 31)).run Tryz.prog (w.alloc (.cells #[.int .u8 71, .int .u8 69, .int .u8 84, .int .u8 32, .int .u8 47, .int .u8 32, .int .u8 72, .int .u8 84, .int .u8 84, .int .u8 80, .int .u8 47, .int .u8 49, .int .u8 46, .int .u8 49, .int .u8 13, .int .u8 10, .int .u8 72, .int .u8 111, .int .u8 115, .int .u8 116, .int .u8 58, .int .u8 32, .int .u8 97, .int .u8 13, .int .u8 10, .int .u8 13, .int .u8 10, .int .u8 109, .int .u8 111, .int .u8 114, .int .u8 101] 5)) = .ok (.slice (some ⟨w.heap.size, 0, none⟩) 31 31) (w.alloc (.cells #[.int .u8 71, .int .u8 69, .int .u8 84, .int .u8 32, .int .u8 47, .int .u8 32, .int .u8 72, .int .u8 84, .int .u8 84, .int .u8 80, .int .u8 47, .int .u8 49, .int .u8 46, .int .u8 49, .int .u8 13, .int .u8 10, .int .u8 72, .int .u8 111, .int .u8 115, .int .u8 116, .int .u8 58, .int .u8 32, .int .u8 97, .int .u8 13, .int .u8 10, .int .u8 13, .int .u8 10, .int .u8 109, .int .u8 111, .int .u8 114, .int .u8 101] 5 (31, 32))) := Lib.run_convert_bytes_const (P := Tryz.prog) w 22 5 #[.int .u8 71, .int .u8 69, .int .u8 84, .int .u8 32, .int .u8 47, .int .u8 32, .int .u8 72, .int .u8 84, .int .u8 84, .int .u8 80, .int .u8 47, .int .u8 49, .int .u8 46, .int .u8 49, .int .u8 13, .int .u8 10, .int .u8 72, .int .u8 111, .int .u8 115, .int .u8 116, .int .u8 58, .int .u8 32, .int .u8 97, .int .u8 13, .int .u8 10, .int .u8 13, .int .u8 10, .int .u8 109, .int .u8 111, .int .u8 114, .int .u8 101] 31 31 Tryz.underlying22 Tryz.underlying5
  clear hm he
  go_enter Tryz.func9, Tryz.ntmps9
  go_wp2_with fail
  clear hc1
  refine Calls.mono K1.out ?_
  rintro e w1 ⟨T1, rfl, ⟨hv, bv, rfl, ho1, ho2⟩, hb1⟩
  obtain ⟨ha, hc, rfl⟩ := own_slice ho1
  obtain ⟨ba, bc, rfl⟩ := own_slice ho2
  have HB1 : Hid (Below w.heap.size w w1) := hb1
  clear K1 ho1 ho2 hb1
  have hc2 : (convert 22 22 (.slice (some ⟨w1.heap.size + 1, 0, none⟩) 16 16)).run Tryz.prog ((w1.alloc (.cells #[.int .i64 2, .int .i64 27, .string ⟨#[71, 69, 84]⟩, .string ⟨#[47]⟩, .slice ha 1 hc, .slice ba 0 bc, .int .i64 0, .bool false, .bool false] 28)).alloc (.cells #[.int .u8 71, .int .u8 69, .int .u8 84, .int .u8 32, .int .u8 47, .int .u8 32, .int .u8 72, .int .u8 84, .int .u8 84, .int .u8 80, .int .u8 47, .int .u8 49, .int .u8 46, .int .u8 48, .int .u8 13, .int .u8 10] 5)) = .ok (.slice (some ⟨w1.heap.size + 1, 0, none⟩) 16 16) ((w1.alloc (.cells #[.int .i64 2, .int .i64 27, .string ⟨#[71, 69, 84]⟩, .string ⟨#[47]⟩, .slice ha 1 hc, .slice ba 0 bc, .int .i64 0, .bool false, .bool false] 28)).alloc (.cells #[.int .u8 71, .int .u8 69, .int .u8 84, .int .u8 32, .int .u8 47, .int .u8 32, .int .u8 72, .int .u8 84, .int .u8 84, .int .u8 80, .int .u8 47, .int .u8 49, .int .u8 46, .int .u8 48, .int .u8 13, .int .u8 10] 5 (16, 17))) := conv_at (w1.alloc (.cells #[.int .i64 2, .int .i64 27, .string ⟨#[71, 69, 84]⟩, .string ⟨#[47]⟩, .slice ha 1 hc, .slice ba 0 bc, .int .i64 0, .bool false, .bool false] 28)) 22 5 #[.int .u8 71, .int .u8 69, .int .u8 84, .int .u8 32, .int .u8 47, .int .u8 32, .int .u8 72, .int .u8 84, .int .u8 84, .int .u8 80, .int .u8 47, .int .u8 49, .int .u8 46, .int .u8 48, .int .u8 13, .int .u8 10] 16 16 (w1.heap.size + 1) (by simp) Tryz.underlying22 Tryz.underlying5
  have hb2' : Below w.heap.size w (w1.alloc (.cells #[.int .i64 2, .int .i64 27, .string ⟨#[71, 69, 84]⟩, .string ⟨#[47]⟩, .slice ha 1 hc, .slice ba 0 bc, .int .i64 0, .bool false, .bool false] 28)) := HB1.out.alloc HB1.out.size _
  have K2 := (show Hid _ from parse_const aw2 (16, 17) (w1.alloc (.cells #[.int .i64 2, .int .i64 27, .string ⟨#[71, 69, 84]⟩, .string ⟨#[47]⟩, .slice ha 1 hc, .slice ba 0 bc, .int .i64 0, .bool false, .bool false] 28)) (by decide) (HM.out.1.below hb2' (Nat.le_refl _)) (HM.out.2.below hb2' (Nat.le_refl _)))
  rw [aw2_eq] at K2
  have hsz2 : (w1.alloc (.cells #[.int .i64 2, .int .i64 27, .string ⟨#[71, 69, 84]⟩, .string ⟨#[47]⟩, .slice ha 1 hc, .slice ba 0 bc, .int .i64 0, .bool false, .bool false] 28)).heap.size = w1.heap.size + 1 := by show (w1.heap.push _).size = _; simp
  rw [hsz2] at K2
  clear hsz2
  have HB2 : Hid (Below w.heap.size w (w1.alloc (.cells #[.int .i64 2, .int .i64 27, .string ⟨#[71, 69, 84]⟩, .string ⟨#[47]⟩, .slice ha 1 hc, .slice ba 0 bc, .int .i64 0, .bool false, .bool false] 28))) := hb2'
  clear hb2'
  simp only [Tl.v]
  go_wp2_with fail
  clear hc2
  refine Calls.mono K2.out ?_
  rintro e w2 ⟨T2, rfl, hT2, hb2⟩
  obtain rfl : T2 = badT 340 := hT2
  have n1 : w2.heap[w1.heap.size]? = some (.cells #[.int .i64 2, .int .i64 27, .string ⟨#[71, 69, 84]⟩, .string ⟨#[47]⟩, .slice ha 1 hc, .slice ba 0 bc, .int .i64 0, .bool false, .bool false] 28 (0, 0)) := (hb2.block w1.heap.size (by omega)).trans (heap_alloc_new w1 _)
  have HB3 : Hid (Below w.heap.size w w2) := HB2.out.trans (hb2.mono (by have := HB1.out.size; omega))
  have hlt2 : w1.heap.size < w2.heap.size := blk_lt n1
  clear K2 hb2 HB2
  have hc3 : (convert 22 22 (.slice (some ⟨w2.heap.size + 1, 0, none⟩) 2 2)).run Tryz.prog ((w2.alloc (.cells #[.int .i64 3, .int .i64 0, .string ⟨#[]⟩, .string ⟨#[]⟩, .slice none 0 0, .slice none 0 0, .int .i64 340, .bool true, .bool false] 28)).alloc (.cells #[.int .u8 71, .int .u8 69] 5)) = .ok (.slice (some ⟨w2.heap.size + 1, 0, none⟩) 2 2) ((w2.alloc (.cells #[.int .i64 3, .int .i64 0, .string ⟨#[]⟩, .string ⟨#[]⟩, .slice none 0 0, .slice none 0 0, .int .i64 340, .bool true, .bool false] 28)).alloc (.cells #[.int .u8 71, .int .u8 69] 5 (2, 3))) := conv_at (w2.alloc (.cells #[.int .i64 3, .int .i64 0, .string ⟨#[]⟩, .string ⟨#[]⟩, .slice none 0 0, .slice none 0 0, .int .i64 340, .bool true, .bool false] 28)) 22 5 #[.int .u8 71, .int .u8 69] 2 2 (w2.heap.size + 1) (by simp) Tryz.underlying22 Tryz.underlying5
  have hb3' : Below w.heap.size w (w2.alloc (.cells #[.int .i64 3, .int .i64 0, .string ⟨#[]⟩, .string ⟨#[]⟩, .slice none 0 0, .slice none 0 0, .int .i64 340, .bool true, .bool false] 28)) := HB3.out.alloc HB3.out.size _
  have K3 := (show Hid _ from parse_const aw3 (2, 3) (w2.alloc (.cells #[.int .i64 3, .int .i64 0, .string ⟨#[]⟩, .string ⟨#[]⟩, .slice none 0 0, .slice none 0 0, .int .i64 340, .bool true, .bool false] 28)) (by decide) (HM.out.1.below hb3' (Nat.le_refl _)) (HM.out.2.below hb3' (Nat.le_refl _)))
  rw [aw3_eq] at K3
  have hsz3 : (w2.alloc (.cells #[.int .i64 3, .int .i64 0, .string ⟨#[]⟩, .string ⟨#[]⟩, .slice none 0 0, .slice none 0 0, .int .i64 340, .bool true, .bool false] 28)).heap.size = w2.heap.size + 1 := by show (w2.heap.push _).size = _; simp
  rw [hsz3] at K3
  clear hsz3
  have HB4 : Hid (Below w.heap.size w (w2.alloc (.cells #[.int .i64 3, .int .i64 0, .string ⟨#[]⟩, .string ⟨#[]⟩, .slice none 0 0, .slice none 0 0, .int .i64 340, .bool true, .bool false] 28))) := hb3'
  have HN1 : Hid (w2.heap[w1.heap.size]? = some (.cells #[.int .i64 2, .int .i64 27, .string ⟨#[71, 69, 84]⟩, .string ⟨#[47]⟩, .slice ha 1 hc, .slice ba 0 bc, .int .i64 0, .bool false, .bool false] 28 (0, 0))) := n1
  clear hb3' n1
  unfold badT
  simp only [Tl.v]
  go_wp2_with fail
  clear hc3
  refine Calls.mono K3.out ?_
  rintro e w3 ⟨T3, rfl, hT3, hb3⟩
  obtain rfl : T3 = moreT := hT3
  have n2 : w3.heap[w2.heap.size]? = some (.cells #[.int .i64 3, .int .i64 0, .string ⟨#[]⟩, .string ⟨#[]⟩, .slice none 0 0, .slice none 0 0, .int .i64 340, .bool true, .bool false] 28 (0, 0)) := (hb3.block w2.heap.size (by omega)).trans (heap_alloc_new w2 _)
  have n1 : w3.heap[w1.heap.size]? = some (.cells #[.int .i64 2, .int .i64 27, .string ⟨#[71, 69, 84]⟩, .string ⟨#[47]⟩, .slice ha 1 hc, .slice ba 0 bc, .int .i64 0, .bool false, .bool false] 28 (0, 0)) := (hb3.block w1.heap.size (by omega)).trans ((Below.heap_alloc w2 _ w1.heap.size hlt2).trans HN1.out)
  have a0 := cell_blk n1 0
  have a1 := cell_blk n1 1
  have a3 := cell_blk n1 3
  have a4 := cell_blk n1 4
  have b0 := cell_blk n2 0
  have b6 := cell_blk n2 6
  simp at a0 a1 a3 a4 b0 b6
  have l1 : w1.heap.size < w3.heap.size := blk_lt n1
  have l2 : w2.heap.size < w3.heap.size := blk_lt n2
  have HB5 : Hid (Below w.heap.size w w3) := HB4.out.trans (hb3.mono (by have := HB3.out.size; omega))
  clear K3 hb3 HB4 n1 n2
  unfold moreT
  simp only [Tl.v]
  go_wp2
  go_ret
  exact ⟨rfl, HB5.out.alloc HB5.out.size _⟩
end Go.Proofs.YtmodmeabjhaklabGreatDoor
/-
  stowageref18.Same of two requests that are alike.
-/
namespace Go.Proofs.YtmodmeabjhaklabGreatDoor
open Go.RowKit

def rqV (m t : List UInt8) (h b : Value) : Value := .agg #[.string ⟨m.toArray⟩, .string ⟨t.toArray⟩, h, b]
set_option maxRecDepth 20000 in
set_option maxHeartbeats 2000000 in
theorem same_any (m t : List UInt8) (hs : List Hd) (b : List UInt8) (a1 a2 : Option Addr) (c1 c2 : Nat) (b1 b2 : Option Addr) (e1 e2 : Nat) (w : World) (h1 : Hdrs w a1 hs) (h2 : Hdrs w a2 hs) (k1 : Bytes w b1 b) (k2 : Bytes w b2 b) (hl : hs.length ≤ 1000000000) :
    Calls Tryz.prog 11 #[rqV m t (.slice a1 hs.length c1) (.slice b1 b.length e1), rqV m t (.slice a2 hs.length c2) (.slice b2 b.length e2)] w fun e w' => e = .returned (.bool true) ∧ Below w.heap.size w w' := by
  obtain ⟨W1, hW1⟩ : ∃ W1, W1 = w.alloc (.cells #[.string ⟨m.toArray⟩, .string ⟨t.toArray⟩, .slice a1 hs.length c1, .slice b1 b.length e1] 25) := ⟨_, rfl⟩
  obtain ⟨W, hW⟩ : ∃ W, W = W1.alloc (.cells #[.string ⟨m.toArray⟩, .string ⟨t.toArray⟩, .slice a2 hs.length c2, .slice b2 b.length e2] 25) := ⟨_, rfl⟩
  have hbW : Below w.heap.size w W := by rw [hW, hW1]; exact ((Below.refl _ _).alloc (Nat.le_refl _) _).alloc (by simp) _
  have hcv1 : (convert 22 9 (.slice b1 b.length e1)).run Tryz.prog W = .ok (.string ⟨b.toArray⟩) W := convert_bytes W b1 e1 b (k1.below hbW (Nat.le_refl _))
  have hcv2 : (convert 22 9 (.slice b2 b.length e2)).run Tryz.prog W = .ok (.string ⟨b.toArray⟩) W := convert_bytes W b2 e2 b (k2.below hbW (Nat.le_refl _))
  have hs1 : W1.heap.size = w.heap.size + 1 := by rw [hW1]; show (w.heap.push _).size = _; simp
  have n2 : W.heap[w.heap.size + 1]? = some (.cells #[.string ⟨m.toArray⟩, .string ⟨t.toArray⟩, .slice a2 hs.length c2, .slice b2 b.length e2] 25 (0, 0)) := by rw [← hs1, hW]; exact heap_alloc_new W1 _
  have n1 : W.heap[w.heap.size]? = some (.cells #[.string ⟨m.toArray⟩, .string ⟨t.toArray⟩, .slice a1 hs.length c1, .slice b1 b.length e1] 25 (0, 0)) := by
    rw [hW]
    refine (Below.heap_alloc W1 _ w.heap.size (by omega)).trans ?_
    rw [hW1]
    exact heap_alloc_new w _
  have H := (show Hid (Hdrs W a1 hs ∧ Hdrs W a2 hs ∧ Below w.heap.size w W ∧ W.heap[w.heap.size]? = some (.cells #[.string ⟨m.toArray⟩, .string ⟨t.toArray⟩, .slice a1 hs.length c1, .slice b1 b.length e1] 25 (0, 0)) ∧ W.heap[w.heap.size + 1]? = some (.cells #[.string ⟨m.toArray⟩, .string ⟨t.toArray⟩, .slice a2 hs.length c2, .slice b2 b.length e2] 25 (0, 0))) from ⟨h1.below hbW (Nat.le_refl _), h2.below hbW (Nat.le_refl _), hbW, n1, n2⟩)
  clear h1 h2 k1 k2 hbW n1 n2 hs1
  rw [hW, hW1] at hcv1 hcv2
  unfold rqV
  go_enter Tryz.func11, Tryz.ntmps11
  go_wp2
  rw [← hW1, ← hW]
  clear hcv1 hcv2 hW hW1
  obtain ⟨N, hN⟩ : ∃ N, N = w.heap.size := ⟨_, rfl⟩
  rw [← hN] at H ⊢
  have HN : Hid (N = w.heap.size) := hN
  clear hN
  go_loopw [5] (fun i wr => ∃ k : Nat, k ≤ hs.length ∧ i = .int .i64 k ∧ Below W.heap.size W wr) (fun i _ => hs.length - (intOf i).toNat)
  case atStart => exact ⟨0, Nat.zero_le _, rfl, Below.refl _ _⟩
  case round =>
    obtain ⟨k, hk, rfl, hb⟩ := hrel
    have m1 := (hb.block N (blk_lt H.out.2.2.2.1)).trans H.out.2.2.2.1
    have m2 := (hb.block (N + 1) (blk_lt H.out.2.2.2.2)).trans H.out.2.2.2.2
    have d1 : wr.cell? ⟨N, 2, none⟩ = some (.slice a1 hs.length c1) := cell_blk m1 2
    have d2 : wr.cell? ⟨N + 1, 2, none⟩ = some (.slice a2 hs.length c2) := cell_blk m2 2
    clear m1 m2
    by_cases hlt : k < hs.length
    · rcases H.out.1.below hb (Nat.le_refl _) with hnil | ⟨b3, o3, rfl, hbs3, hc3⟩
      · rw [hnil] at hlt; simp at hlt
      · rcases H.out.2.1.below hb (Nat.le_refl _) with hnil | ⟨b4, o4, rfl, hbs4, hc4⟩
        · rw [hnil] at hlt; simp at hlt
        · obtain ⟨x1, x2⟩ := hc3 k hlt
          obtain ⟨x3, x4⟩ := hc4 k hlt
          generalize hs[k] = h at x1 x2 x3 x4
          have hki : (k : Int) < (hs.length : Int) := by omega
          have hk0 : (0 : Int) ≤ (k : Int) := by omega
          have HB := (show Hid _ from hb)
          clear hc3 hc4 hb
          go_wp2
          go_quiet (fail)
          go_wp2
          exact ⟨⟨k + 1, by omega, by go_num, HB.out.trans ((drewN_below wr _).mono HB.out.size)⟩, by simp [intOf]; omega⟩
    · obtain rfl : k = hs.length := by omega
      have HB := (show Hid _ from hb)
      clear hb
      go_wp2
      go_ret
      rw [HN.out] at H
      exact ⟨rfl, H.out.2.2.1.trans (HB.out.mono H.out.2.2.1.size)⟩
end Go.Proofs.YtmodmeabjhaklabGreatDoor

/-
  A chunk and the end behind it (reader.chunk).
-/
import Derived.Test.YtmodmeabjhaklaaGreatDoorBdy
namespace Go.Proofs.YtmodmeabjhaklaaGreatDoor
open Go.RowKit

theorem step5_more {l : List UInt8} {s : St} (h : l.length - s.at_ < s.size) : stepF l 5 s = .fin .more := by simp [stepF, h]
theorem step5_bad {l : List UInt8} {s : St} (h : ¬ l.length - s.at_ < s.size) (hp : ((l.drop (s.at_ + s.size)).take 2).isPrefixOf [13, 10] = false) : stepF l 5 s = .fin (.bad 308) := by
  simp only [stepF]
  rw [if_neg h, if_pos hp]
theorem step5_wait {l : List UInt8} {s : St} (h : ¬ l.length - s.at_ < s.size) (hp : ((l.drop (s.at_ + s.size)).take 2).isPrefixOf [13, 10] = true) (he : (l.drop (s.at_ + s.size)).take 2 ≠ [13, 10]) : stepF l 5 s = .fin .more := by
  simp only [stepF]
  rw [if_neg h, if_neg (by rw [hp]; simp), if_pos he]
theorem step5_go {l : List UInt8} {s : St} (h : ¬ l.length - s.at_ < s.size) (hp : ((l.drop (s.at_ + s.size)).take 2).isPrefixOf [13, 10] = true) (he : (l.drop (s.at_ + s.size)).take 2 = [13, 10]) : stepF l 5 s = .go 4 { takeL l s with at_ := s.at_ + s.size + 2 } := by
  simp only [stepF]
  rw [if_neg h, if_neg (by rw [hp]; simp), if_neg (by simp [he])]
set_option maxRecDepth 20000 in
set_option maxHeartbeats 2000000 in
theorem chunk_any {w0 w : World} {p : Nat} {l : List UInt8} {s : St} {a : Option Addr} {cap : Nat} {T : Tl} {hv pv : Value} {xs : List Sl} (h : Rd w0 w p l s a cap T hv pv xs) (hw : Inw l 5 s) :
    Calls Tryz.prog 27 #[.pointer (some ⟨p, 0, none⟩)] w fun e w' => NxR w0 w w' p l a cap e (stepF l 5 s) := by
  have H := (show Hid _ from h)
  by_cases hlt : l.length - s.at_ < s.size
  · have HT := (show Hid _ from take_no h hlt)
    have HS : Hid (stepF l 5 s = .fin .more) := step5_more hlt
    clear h hlt hw
    go_enter Tryz.func27, Tryz.ntmps27
    go_wp2_with fail
    refine Calls.mono HT.out ?_
    rintro e w1 ⟨rfl, hr1, hb1⟩
    have K := (show Hid _ from more_any p _ w1 hr1.rb)
    have HB : Hid (Below p w w1 ∧ p < w1.heap.size) := ⟨hb1, hr1.rb.lt⟩
    clear hr1 hb1 HT
    go_wp2_with fail
    refine Calls.mono K.out ?_
    rintro e w2 ⟨rfl, hr2, hm2⟩
    have HR := (show Hid _ from And.intro hr2 hm2)
    clear hr2 hm2 K
    go_wp2
    go_ret
    exact NxR.fin HS.out rfl HR.out.1 rfl (HB.out.1.trans (HR.out.2.toBl HB.out.2)) H.out.bl H.out.lo
  · have hinv := take_inv h.inv hlt (by have := hw.q5 rfl; have := h.inv.pcs; omega)
    have HT := (show Hid _ from take_yes h hlt hinv)
    have HLT : Hid (¬ l.length - s.at_ < s.size) := hlt
    have hk1 : s.at_ + s.size ≤ l.length := hinv.at_
    have hl9 := hinv.len
    have hcap := h.cap
    have HI := (show Hid _ from hinv)
    clear h hlt hw hinv
    go_enter Tryz.func27, Tryz.ntmps27
    go_wp2_with fail
    refine Calls.mono HT.out ?_
    rintro e w1 ⟨rfl, ⟨pv', xs', hr1⟩, hb1⟩
    clear HT
    obtain ⟨k, hk⟩ : ∃ k, k = s.at_ + s.size := ⟨_, rfl⟩
    have c0 : w1.cell? ⟨p, 0, none⟩ = some (.slice a l.length cap) := hr1.rb.cell 0 rfl
    have c1 : w1.cell? ⟨p, 1, none⟩ = some (.int .i64 (k : Int)) := by rw [hk]; exact hr1.rb.cell 1 rfl
    have hki : (k : Int) ≤ (l.length : Int) := by omega
    have hk0 : (0 : Int) ≤ (k : Int) := by omega
    have hci : (l.length : Int) ≤ (cap : Int) := by omega
    have hlen : (l.drop k).length = l.length - k := by simp
    have HK : Hid (k = s.at_ + s.size) := hk
    have HR1 := (show Hid _ from And.intro hr1 hb1)
    clear hr1 hb1 hk1 hk
    go_wp2
    go_quiet (fail)
    have HW : Hid (Below w1.heap.size w1 (w1.drewN nq)) := drewN_below w1 nq
    generalize w1.drewN nq = W at *
    rw [show (if cap = k then a else Option.map (fun x => x.add k) a) = fromA a cap k from rfl, ← hlen]
    have HBy : Hid (Bytes W (fromA a cap k) (l.drop k)) := bytes_from (HR1.out.1.bytes.below HW.out (Nat.le_refl _)) HR1.out.1.cap
    obtain ⟨A, hA⟩ : ∃ A, A = fromA a cap k := ⟨_, rfl⟩
    rw [← hA] at HBy ⊢
    clear hA
    obtain ⟨c, hc⟩ : ∃ c, c = cap - k := ⟨_, rfl⟩
    rw [← hc]
    obtain ⟨rest, hrest⟩ : ∃ rest, rest = l.drop k := ⟨_, rfl⟩
    rw [← hrest] at hlen HBy ⊢
    have hrc : rest.length ≤ c := by omega
    have hr9 : rest.length ≤ 1000000000 := by omega
    have HRE : Hid (rest = l.drop (s.at_ + s.size)) := by show _ = _; rw [hrest, HK.out]
    clear hc hrest hlen c0 c1 hki hk0 hci
    have hrW := HR1.out.1.below HW.out
    have hbW : Below p w W := HR1.out.2.trans (HW.out.mono (Nat.le_of_lt HR1.out.1.rb.lt))
    have HRW := (show Hid _ from And.intro hrW hbW)
    clear hrW hbW
    obtain ⟨E, hE⟩ : ∃ E, E = rest.take 2 := ⟨_, rfl⟩
    have hEl : E.length = min rest.length 2 := by rw [hE, List.length_take, Nat.min_comm]
    have hcv : (convert 22 9 (.slice A E.length c)).run Tryz.prog W = .ok (.string ⟨E.toArray⟩) W := by
      rw [hE]
      exact convert_bytes W A c (rest.take 2) (bytes_take HBy.out 2)
    have hmin : min (rest.length : Int) 2 = (E.length : Int) := by rw [hEl]; omega
    have hEc : (E.length : Int) ≤ (c : Int) := by omega
    have hEr : (E.length : Int) ≤ (rest.length : Int) := by omega
    have hE0 : (0 : Int) ≤ (E.length : Int) := by omega
    have HEE : Hid (E = (l.drop (s.at_ + s.size)).take 2) := by show _ = _; rw [hE, HRE.out]
    clear hE hEl
    have HP := (show Hid _ from YtmodmeabjhaklaaGreatDoor.strings_HasPrefix ⟨#[13, 10]⟩ ⟨E.toArray⟩ W)
    simp only [hp_eq] at HP
    clear hcap hl9
    go_wp2_with fail
    refine Calls.mono HP.out ?_
    rintro e Wx ⟨rfl, hWx⟩
    have hWy := hWx.symm
    subst hWy
    clear HP hcv hmin hEc hEr hE0 HBy
    cases hpx : E.isPrefixOf [13, 10] with
    | false =>
      have HS : Hid (stepF l 5 s = .fin (.bad 308)) := step5_bad HLT.out (by rw [← HEE.out]; exact hpx)
      have K := (show Hid _ from bad_any p _ 308 W HRW.out.1.rb)
      clear hpx
      go_wp2_with fail
      refine Calls.mono K.out ?_
      rintro e w2 ⟨rfl, hr2, hm2⟩
      have HR := (show Hid _ from And.intro hr2 hm2)
      clear hr2 hm2 K
      go_wp2
      go_ret
      exact NxR.fin HS.out rfl HR.out.1 rfl (HRW.out.2.trans (HR.out.2.toBl HRW.out.1.rb.lt)) H.out.bl H.out.lo
    | true =>
      by_cases he : E = [13, 10]
      · have HS : Hid (stepF l 5 s = .go 4 { takeL l s with at_ := s.at_ + s.size + 2 }) := step5_go HLT.out (by rw [← HEE.out]; exact hpx) (by rw [← HEE.out]; exact he)
        have heb : (E == [13, 10]) = true := by rw [he]; rfl
        have hroom : s.at_ + s.size + 2 ≤ l.length := by
          have h1 := congrArg List.length HEE.out
          rw [he, List.length_take, List.length_drop] at h1
          simp at h1
          omega
        have c1 : W.cell? ⟨p, 1, none⟩ = some (.int .i64 ((s.at_ + s.size : Nat) : Int)) := HRW.out.1.rb.cell 1 rfl
        have f1 := HRW.out.1.rb.fz 1
        have hb9 : s.at_ + s.size ≤ 1000000000 := by have := HI.out.len; omega
        have hm3 : Md (· = p) W (W.setCell ⟨p, 1, none⟩ (.int .i64 (((s.at_ + s.size : Nat) : Int) + 2))) := (Md.refl _ _).setp _ _
        have hI := HI.out
        have HG := (show Hid (NxR w0 w (W.setCell ⟨p, 1, none⟩ (.int .i64 (((s.at_ + s.size : Nat) : Int) + 2))) p l a cap (.returned (.int .i64 4)) (stepF l 5 s)) from
          NxR.go HS.out rfl (HRW.out.1.turn hm3 (T' := T) (s' := { takeL l s with at_ := s.at_ + s.size + 2 }) (Rb.of (set_lst HRW.out.1.rb 1 _) rfl) rfl rfl ⟨hroom, hI.len, Nat.le_trans hI.head (by simp [takeL]), Nat.le_trans hI.fields (by simp [takeL]), Nat.le_trans hI.hs (by simp [takeL]), Nat.le_trans hI.pcs (by simp [takeL]), Nat.le_trans hI.sum (by simp [takeL]), hI.size, hI.sm⟩) (HRW.out.2.trans (hm3.toBl HRW.out.1.rb.lt)))
        clear hpx he hm3 hI hroom
        obtain ⟨k2, hk2⟩ : ∃ k2, k2 = s.at_ + s.size := ⟨_, rfl⟩
        rw [← hk2] at c1 HG hb9
        clear hk2
        go_wp2
        go_ret
        exact HG.out
      · have HS : Hid (stepF l 5 s = .fin .more) := step5_wait HLT.out (by rw [← HEE.out]; exact hpx) (by rw [← HEE.out]; exact he)
        have heb : (E == [13, 10]) = false := by rw [beq_eq_false_iff_ne]; exact he
        have K := (show Hid _ from more_any p _ W HRW.out.1.rb)
        clear hpx he
        go_wp2_with fail
        refine Calls.mono K.out ?_
        rintro e w2 ⟨rfl, hr2, hm2⟩
        have HR := (show Hid _ from And.intro hr2 hm2)
        clear hr2 hm2 K
        go_wp2
        go_ret
        exact NxR.fin HS.out rfl HR.out.1 rfl (HRW.out.2.trans (HR.out.2.toBl HRW.out.1.rb.lt)) H.out.bl H.out.lo
end Go.Proofs.YtmodmeabjhaklaaGreatDoor

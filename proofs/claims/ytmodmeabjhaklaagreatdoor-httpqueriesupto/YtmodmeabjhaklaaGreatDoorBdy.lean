/-
  The body, a chunk (reader.body, reader.chunk).
-/
import Derived.Test.YtmodmeabjhaklaaGreatDoorDon
namespace Go.Proofs.YtmodmeabjhaklaaGreatDoor
open Go.RowKit

/-- What holds besides at a state. -/
structure Inw (l : List UInt8) (q : Nat) (s : St) : Prop where
  fl : s.pcs.flatten.length = s.sum
  at2 : q ≠ 0 → 2 ≤ s.at_
  q3 : q ≤ 3 → s.pcs = []
  q5 : q = 5 → 1 ≤ s.size
theorem take_inv {l : List UInt8} {s : St} (hI : Inv l s) (h : ¬ l.length - s.at_ < s.size) (hp : s.pcs.length + 1 ≤ s.at_ + s.size) : Inv l (takeL l s) := by
  have h1 := hI.at_
  refine ⟨?_, hI.len, ?_, ?_, ?_, ?_, ?_, hI.size, hI.sm⟩
  · show s.at_ + s.size ≤ l.length
    omega
  · have := hI.head
    show s.head ≤ s.at_ + s.size
    omega
  · have := hI.fields
    show s.fields ≤ s.at_ + s.size
    omega
  · have := hI.hs
    show s.hs.length ≤ s.at_ + s.size
    omega
  · show (s.pcs ++ [_]).length ≤ s.at_ + s.size
    rw [List.length_append]
    exact hp
  · have := hI.sum
    show s.sum + s.size ≤ s.at_ + s.size
    omega
theorem take_fl {l : List UInt8} {s : St} (h : ¬ l.length - s.at_ < s.size) (hf : s.pcs.flatten.length = s.sum) : (takeL l s).pcs.flatten.length = (takeL l s).sum := by
  show (s.pcs ++ [(l.drop s.at_).take s.size]).flatten.length = s.sum + s.size
  rw [List.flatten_append, List.length_append, hf]
  simp
  omega
theorem step3_more {l : List UInt8} {s : St} (h : l.length - s.at_ < s.size) : stepF l 3 s = .fin .more := by simp [stepF, h]
theorem step3_done {l : List UInt8} {s : St} (h : ¬ l.length - s.at_ < s.size) : stepF l 3 s = .fin (doneL (takeL l s)) := by simp [stepF, h]
set_option maxRecDepth 20000 in
set_option maxHeartbeats 1000000 in
theorem body_any {w0 w : World} {p : Nat} {l : List UInt8} {s : St} {a : Option Addr} {cap : Nat} {T : Tl} {hv pv : Value} {xs : List Sl} (h : Rd w0 w p l s a cap T hv pv xs) (hw : Inw l 3 s) :
    Calls Tryz.prog 25 #[.pointer (some ⟨p, 0, none⟩)] w fun e w' => NxR w0 w w' p l a cap e (stepF l 3 s) := by
  have H := (show Hid _ from h)
  by_cases hlt : l.length - s.at_ < s.size
  · have HT := (show Hid _ from take_no h hlt)
    have HS : Hid (stepF l 3 s = .fin .more) := step3_more hlt
    clear h hlt hw
    go_enter Tryz.func25, Tryz.ntmps25
    go_wp2_with fail
    refine Calls.mono HT.out ?_
    rintro e w1 ⟨rfl, hr1, hb1⟩
    have K := (show Hid _ from more_any p _ w1 hr1.rb)
    have HB : Hid (Below p w w1 ∧ p < w1.heap.size) := ⟨hb1, hr1.rb.lt⟩
    clear hr1 hb1 HT
    go_wp2_with fail
    refine Calls.mono K.out ?_
    rintro e w2 ⟨rfl, hr2, hm2⟩
    have HR := (show Hid _ from And.intro hr2 hm2)
    clear hr2 hm2 K
    go_wp2
    go_ret
    exact NxR.fin HS.out rfl HR.out.1 rfl (HB.out.1.trans (HR.out.2.toBl HB.out.2)) H.out.bl H.out.lo
  · have hinv := take_inv h.inv hlt (by have := hw.at2 (by omega); rw [hw.q3 (by omega)]; simp; omega)
    have hfl := take_fl hlt hw.fl
    have HT := (show Hid _ from take_yes h hlt hinv)
    have HS : Hid (stepF l 3 s = .fin (doneL (takeL l s))) := step3_done hlt
    have hfb : (takeL l s).pcs.flatten.length ≤ 1000000000 := by rw [hfl]; have := hinv.sum; have := hinv.at_; have := hinv.len; omega
    have HFb : Hid ((takeL l s).pcs.flatten.length ≤ 1000000000) := hfb
    clear h hlt hw hinv hfl hfb
    go_enter Tryz.func25, Tryz.ntmps25
    go_wp2_with fail
    refine Calls.mono HT.out ?_
    rintro e w1 ⟨rfl, ⟨pv', xs', hr1⟩, hb1⟩
    have K := (show Hid _ from done_any hr1 HFb.out)
    have HB : Hid (Below p w w1) := hb1
    clear hr1 hb1 HT
    go_wp2_with fail
    refine Calls.mono K.out ?_
    rintro e w2 ⟨rfl, hr2, hb2⟩
    have HR := (show Hid _ from And.intro hr2 hb2)
    clear hr2 hb2 K
    go_wp2
    go_ret
    rw [HS.out]
    exact ⟨rfl, HR.out.1, HB.out.trans HR.out.2⟩
end Go.Proofs.YtmodmeabjhaklaaGreatDoor

/-
  When the document's frame is what lies on the device.
-/
import Derived.Test.YtecljiefljgfmaaRun16
import Derived.Test.YtecljiefljgfmaaRun13
import Derived.Test.YtecljiefljgfmaaFrame
namespace Go.Proofs.Ytecljiefljgfmaa
open Go.RowKit

theorem be_vl4 (a b c d : UInt8) (x : List UInt8) : be (vl (a :: b :: c :: d :: x) 4) 4 = [a, b, c, d] := by
  have ha := a.toNat_lt
  have hb := b.toNat_lt
  have hc := c.toNat_lt
  have hd := d.toNat_lt
  simp only [vl, be, List.getD_cons_zero, List.getD_cons_succ]
  have f : ∀ (n : Nat) (u : UInt8), n % 256 = u.toNat → UInt8.ofNat n = u := fun n u h => by
    apply UInt8.toNat_inj.1
    rw [UInt8.toNat_ofNat']
    exact h
  rw [f _ a (by omega), f _ b (by omega), f _ c (by omega), f _ d (by omega)]
theorem be_vl4' {l : List UInt8} (h : 4 ≤ l.length) : be (vl l 4) 4 = l.take 4 := by
  match l, h with
  | a :: b :: c :: d :: x, _ => rw [be_vl4]; rfl

theorem dFrame_iff {b : List UInt8} {ep nx ln : Nat} (hl : b.length = 24 + ln) (hln : vl b 4 = ln) : dFrame ep nx (b.drop 24) = b ↔ (b.take 24).drop 8 = be ep 8 ++ be nx 8 ∧ crcN (b.drop 8) = vl (b.drop 4) 4 := by
  have h0 : b = b.take 4 ++ ((b.drop 4).take 4 ++ b.drop 8) := by
    conv => lhs; rw [← List.take_append_drop 4 b, ← List.take_append_drop 4 (b.drop 4), List.drop_drop]
  have h1 : b.drop 8 = (b.take 24).drop 8 ++ b.drop 24 := by
    conv => lhs; rw [← List.take_append_drop 24 b, List.drop_append_of_le_length (by rw [List.length_take]; omega)]
  have hpl : (b.drop 24).length = ln := by rw [List.length_drop]; omega
  have e4 : be (b.drop 24).length 4 = b.take 4 := by rw [hpl, ← hln]; exact be_vl4' (by omega)
  have e8 : be (vl (b.drop 4) 4) 4 = (b.drop 4).take 4 := be_vl4' (by rw [List.length_drop]; omega)
  constructor
  · intro h
    have hlt : (be (b.drop 24).length 4 ++ be (crcN (dTail ep nx (b.drop 24))) 4).length = 8 := by rw [List.length_append, be_length, be_length]
    have hd8 : dTail ep nx (b.drop 24) = b.drop 8 := by
      have := congrArg (List.drop 8) h
      rwa [dFrame, List.drop_left' hlt] at this
    refine ⟨?_, ?_⟩
    · have := hd8
      rw [dTail, h1] at this
      exact (List.append_cancel_right this).symm
    · have hd4 : be (crcN (dTail ep nx (b.drop 24))) 4 ++ dTail ep nx (b.drop 24) = b.drop 4 := by
        have := congrArg (List.drop 4) h
        rwa [dFrame, List.append_assoc, List.drop_left' (by rw [be_length])] at this
      rw [← hd4, vl_be _ _ (crcN_lt _), hd8]
  · rintro ⟨q1, q2⟩
    have hd8 : dTail ep nx (b.drop 24) = b.drop 8 := by rw [dTail, ← q1, ← h1]
    rw [dFrame, hd8, q2, e4, e8, List.append_assoc]
    exact h0.symm
end Go.Proofs.Ytecljiefljgfmaa
/-
  What the document reads as the next frame is what the code reads.
-/
namespace Go.Proofs.Ytecljiefljgfmaa
open Go.RowKit

theorem secs_take24 {S : List ByteArray} (hS : ∀ x ∈ S, x.size = 256) {p : Nat} : ∀ {k : Nat}, 1 ≤ k → p + k ≤ S.length → (secs S p k).take 24 = (secs S p 1).take 24
  | 0, h, _ => by omega
  | 1, _, _ => rfl
  | k + 2, _, h => by
    rw [secs_succ (by omega), List.take_append_of_le_length (by rw [secs_length hS (by omega)]; omega)]
    exact secs_take24 hS (by omega) (by omega)
theorem vl_take8 (l : List UInt8) : vl (l.take 8) 8 = vl l 8 := by
  simp only [vl, List.getD_eq_getElem?_getD, List.getElem?_take]
  rfl
theorem vl_half (l : List UInt8) : vl l 8 / 4294967296 = vl l 4 ∧ vl l 8 % 4294967296 = vl (l.drop 4) 4 := by
  have e : ∀ j, ((l.getD j 0).toNat) < 256 := fun j => (l.getD j 0).toNat_lt
  have h4 := e 4
  have h5 := e 5
  have h6 := e 6
  have h7 := e 7
  have d : ∀ j, (l.drop 4).getD j 0 = l.getD (4 + j) 0 := fun j => by simp [List.getD_eq_getElem?_getD]
  have a8 : vl l 8 = (((vl l 4 * 256 + (l.getD 4 0).toNat) * 256 + (l.getD 5 0).toNat) * 256 + (l.getD 6 0).toNat) * 256 + (l.getD 7 0).toNat := rfl
  have a4 : vl (l.drop 4) 4 = (((0 * 256 + ((l.drop 4).getD 0 0).toNat) * 256 + ((l.drop 4).getD 1 0).toNat) * 256 + ((l.drop 4).getD 2 0).toNat) * 256 + ((l.drop 4).getD 3 0).toNat := rfl
  rw [d 0, d 1, d 2, d 3] at a4
  simp only [Nat.add_zero, Nat.reduceAdd] at a4
  rw [a4, a8]
  generalize vl l 4 = x
  omega
theorem vl_takeN {l : List UInt8} {k n : Nat} (h : k ≤ n) : vl (l.take n) k = vl l k := by
  induction k with
  | zero => rfl
  | succ k ih =>
    rw [vl, vl, ih (by omega)]
    simp only [List.getD_eq_getElem?_getD, List.getElem?_take, if_pos (show k < n by omega)]

/-- The next frame, as the document reads it. -/
theorem fr_doc {S : List ByteArray} {g : G} (hS : ∀ x ∈ S, x.size = 256) (hfit : g.fin ≤ S.length) (h1 : g.at' < g.fin) : frLen S g = vl (frHead S g) 4 ∧ fr S g = if g.fin - g.at' < sect (24 + frLen S g) then none else if dFrame g.ep g.nx ((frAll S g).drop 24) = frAll S g then unp (((frAll S g).drop 24).length + 1) ((frAll S g).drop 24) else none := by
  have hl : frLen S g = vl (frHead S g) 4 := by rw [frLen, frLead, vl_take8]; exact (vl_half _).1
  refine ⟨hl, ?_⟩
  have hm : frLead S g % 4294967296 = vl ((frHead S g).drop 4) 4 := by rw [frLead, vl_take8]; exact (vl_half _).2
  by_cases hk : g.fin - g.at' < sect (24 + frLen S g)
  · rw [if_pos hk, fr_none3 (by unfold sect at hk; omega)]
  · rw [if_neg hk]
    have hlen : (frAll S g).length = 24 + frLen S g := by
      rw [frAll, List.length_take, secs_length hS (by omega)]
      have := sect_le (24 + frLen S g)
      omega
    have hk1 : 1 ≤ sect (24 + frLen S g) := by unfold sect; omega
    have hh : (frAll S g).take 24 = frHead S g := by
      rw [frAll, List.take_take, show min 24 (24 + frLen S g) = 24 from by omega, frHead, sect24]
      exact secs_take24 hS hk1 (by omega)
    have hv4 : vl (frAll S g) 4 = frLen S g := by rw [hl, ← hh, vl_takeN (by omega)]
    have hv8 : vl ((frAll S g).drop 4) 4 = frLead S g % 4294967296 := by
      rw [hm, ← hh, List.drop_take, vl_takeN (by omega)]
    have hiff := dFrame_iff (ep := g.ep) (nx := g.nx) hlen hv4
    rw [hh, hv8] at hiff
    by_cases hst : (frHead S g).drop 8 = stampL g
    · by_cases hc : crcN ((frAll S g).drop 8) = frLead S g % 4294967296
      · rw [if_pos (hiff.2 ⟨hst, hc⟩), fr_unp (by omega) hst (by unfold sect at hk; omega) hc]
      · rw [if_neg (fun e => hc (hiff.1 e).2), fr_none4 hc]
    · rw [if_neg (fun e => hst (hiff.1 e).1), fr_none2 hst]
end Go.Proofs.Ytecljiefljgfmaa

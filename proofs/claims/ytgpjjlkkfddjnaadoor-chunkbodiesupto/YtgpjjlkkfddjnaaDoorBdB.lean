/-
  chunk.Body and the document's Body.
-/
import Derived.Test.YtgpjjlkkfddjnaaDoorBdA
import Derived.Test.YtgpjjlkkfddjnaaDoorLawDec
namespace Go.Proofs.YtgpjjlkkfddjnaaDoor
open Go.RowKit

/-- "STREAMING-AWS4-HMAC-SHA256-PAYLOAD" -/
def strmT : List UInt8 := [83, 84, 82, 69, 65, 77, 73, 78, 71, 45, 65, 87, 83, 52, 45, 72, 77, 65, 67, 45, 83, 72, 65, 50, 53, 54, 45, 80, 65, 89, 76, 79, 65, 68]
/-- A request's data, and what is wrong with it. -/
def bodyL (x : Wh) (hs : List Hd) (b : List UInt8) : List UInt8 × Int :=
  if x.pay = strmT then (if (dszL hs).2 then decL x (dszL hs).1 b else ([], 319)) else (b, 0)
theorem four_of {w : World} {N : Nat} {t : TypeId} {a b c d : Value} {fr : Nat × Nat} (h : w.heap[N]? = some (.cells #[a, b, c, d] t fr)) : w.cell? ⟨N, 0, none⟩ = some a ∧ w.cell? ⟨N, 1, none⟩ = some b ∧ w.cell? ⟨N, 2, none⟩ = some c ∧ w.cell? ⟨N, 3, none⟩ = some d := by
  refine ⟨?_, ?_, ?_, ?_⟩ <;> simp [World.cell?, h]
set_option maxRecDepth 20000 in
set_option maxHeartbeats 4000000 in
theorem body_any (x : Wh) (ka : Option Addr) (kc : Nat) (m t : List UInt8) (ha : Option Addr) (hs : List Hd) (hc : Nat) (ba : Option Addr) (b : List UInt8) (bc : Nat) (w : World)
    (hx : WhOk w x ka kc) (hH : Hdrs w ha hs) (hhl : hs.length ≤ 1000000000) (hhv : ∀ h ∈ hs, h.2.length ≤ 1000000000) (hb : Sl w ba bc b) (hbl : b.length ≤ 1000000000) (he : Er w) :
    Calls Tryd.prog 17 #[x.v ka kc, .agg #[.string ⟨m.toArray⟩, .string ⟨t.toArray⟩, .slice ha hs.length hc, .slice ba b.length bc]] w fun e w' => ∃ a' c', e = .returned (.tuple #[.slice a' (bodyL x hs b).1.length c', .int .i64 (bodyL x hs b).2]) ∧ Sl w' a' c' (bodyL x hs b).1 ∧ Below w.heap.size w w' := by
  obtain ⟨W1, hW1⟩ : ∃ W1, W1 = w.alloc (.cells #[.string ⟨x.id.toArray⟩, .string ⟨x.date.toArray⟩, .string ⟨x.scope.toArray⟩, .string ⟨x.sig.toArray⟩, .slice ka x.key.length kc, .string ⟨x.pay.toArray⟩] 24) := ⟨_, rfl⟩
  obtain ⟨W, hW⟩ : ∃ W, W = W1.alloc (.cells #[.string ⟨m.toArray⟩, .string ⟨t.toArray⟩, .slice ha hs.length hc, .slice ba b.length bc] 42) := ⟨_, rfl⟩
  obtain ⟨N, hN⟩ : ∃ N, N = w.heap.size := ⟨_, rfl⟩
  have hs1 : W1.heap.size = w.heap.size + 1 := by rw [hW1]; show (w.heap.push _).size = _; simp
  obtain ⟨M, hM⟩ : ∃ M, M = w.heap.size + 1 := ⟨_, rfl⟩
  have hb1 : Below w.heap.size w W1 := by rw [hW1]; exact (Below.refl _ _).alloc (Nat.le_refl _) _
  have hb2 : Below W1.heap.size W1 W := by rw [hW]; exact (Below.refl _ _).alloc (Nat.le_refl _) _
  have n1 : W1.heap[N]? = some (.cells #[.string ⟨x.id.toArray⟩, .string ⟨x.date.toArray⟩, .string ⟨x.scope.toArray⟩, .string ⟨x.sig.toArray⟩, .slice ka x.key.length kc, .string ⟨x.pay.toArray⟩] 24 (0, 0)) := by rw [hW1, hN]; exact heap_alloc_new w _
  have nN : W.heap[N]? = some (.cells #[.string ⟨x.id.toArray⟩, .string ⟨x.date.toArray⟩, .string ⟨x.scope.toArray⟩, .string ⟨x.sig.toArray⟩, .slice ka x.key.length kc, .string ⟨x.pay.toArray⟩] 24 (0, 0)) := (hb2.block N (blk_lt n1)).trans n1
  have nM : W.heap[M]? = some (.cells #[.string ⟨m.toArray⟩, .string ⟨t.toArray⟩, .slice ha hs.length hc, .slice ba b.length bc] 42 (0, 0)) := by rw [hW, hM, ← hs1]; exact heap_alloc_new W1 _
  have hbW : Below w.heap.size w W := hb1.trans (hb2.mono hb1.size)
  have HB := (show Hid (Below w.heap.size w W) from hbW)
  have HW := (show Hid (WhOk W x ka kc ∧ Hdrs W ha hs ∧ Sl W ba bc b ∧ Er W) from ⟨hx.below hbW, hH.below hbW (Nat.le_refl _), hb.below hbW, he.below hbW (Nat.le_refl _)⟩)
  have HL := (show Hid (b.length ≤ 1000000000 ∧ hs.length ≤ 1000000000 ∧ ∀ h ∈ hs, h.2.length ≤ 1000000000) from ⟨hbl, hhl, hhv⟩)
  have HN := (show Hid _ from nN)
  have HM := (show Hid _ from nM)
  clear hx hH hb he hbl hhl hhv hb1 hb2 n1 hs1 hbW
  obtain ⟨x0, x1, x2, x3, x4, x5⟩ := six_of nN
  obtain ⟨y0, y1, y2, y3⟩ := four_of nM
  clear nN nM
  obtain ⟨PS, hPS⟩ : ∃ PS : ByteArray, PS = ⟨x.pay.toArray⟩ := ⟨_, rfl⟩
  have KC := (show Hid _ from clone_call HW.out.2.2.1 HL.out.1)
  have KZ := (show Hid _ from dsz_any ha hs hc W HW.out.2.1 HL.out.2.1 HL.out.2.2)
  obtain ⟨D, hD⟩ : ∃ D, D = dszL hs := ⟨_, rfl⟩
  rw [← hD] at KZ
  obtain ⟨O, hO⟩ : ∃ O, O = bodyL x hs b := ⟨_, rfl⟩
  rw [← hO]
  have HO := (show Hid (O = if x.pay = strmT then (if D.2 then decL x D.1 b else ([], 319)) else (b, 0)) from by rw [hO, hD]; rfl)
  have KD := (show Hid (∀ w1, Below W.heap.size W w1 → Calls Tryd.prog 9 #[x.v ka kc, .slice ba b.length bc, .int .i64 D.1] w1 fun e w' => ∃ a' c', e = .returned (.tuple #[.slice a' (decL x D.1 b).1.length c', .int .i64 (decL x D.1 b).2]) ∧ Sl w' a' c' (decL x D.1 b).1 ∧ Below w1.heap.size w1 w') from fun w1 h1 => decode_call D.1 (HW.out.1.below h1) (HW.out.2.2.1.below h1) HL.out.1 (HW.out.2.2.2.below h1 (Nat.le_refl _)))
  clear hD hO
  unfold Wh.v at KD ⊢
  rw [← hPS] at KD ⊢ hW1 x5
  have hq0 : (PS.toList == [83, 84, 82, 69, 65, 77, 73, 78, 71, 45, 65, 87, 83, 52, 45, 72, 77, 65, 67, 45, 83, 72, 65, 50, 53, 54, 45, 80, 65, 89, 76, 79, 65, 68]) = decide (x.pay = strmT) := by
    have e : PS.toList = x.pay := by rw [hPS, ByteArray.toList_mk]
    rw [e]
    show (x.pay == strmT) = _
    rw [Bool.eq_iff_iff, beq_iff_eq, decide_eq_true_iff]
  have XP := (show Hid (PS = ⟨x.pay.toArray⟩) from hPS)
  clear hPS
  by_cases hp : x.pay = strmT
  · have hq : (PS.toList == [83, 84, 82, 69, 65, 77, 73, 78, 71, 45, 65, 87, 83, 52, 45, 72, 77, 65, 67, 45, 83, 72, 65, 50, 53, 54, 45, 80, 65, 89, 76, 79, 65, 68]) = true := by rw [hq0, decide_eq_true hp]
    have HR := (show Hid (O = if D.2 then decL x D.1 b else ([], 319)) from by show O = _; rw [HO.out, if_pos hp])
    clear hq0 hp HO KC
    obtain ⟨dn, dk⟩ := D
    go_enter Tryd.func17, Tryd.ntmps17
    go_upto_region 1 with fail
    rw [← hW1, ← hW, ← hM, ← hN]
    clear hW1 hW hM hN
    go_wp2_with fail
    refine Calls.mono KZ.out ?_
    rintro e w1 ⟨rfl, hb1⟩
    have HB1 := (show Hid (Below W.heap.size W w1) from hb1)
    cases dk with
    | false =>
      have HR' := (show Hid (O = ([], 319)) from HR.out)
      clear HR KD hb1 KZ
      go_wp2
      go_ret2
      rw [HR'.out]
      exact ⟨none, 0, rfl, ⟨Nat.le_refl _, by decide, .inl rfl, (fun y hy => by cases hy), fun _ => rfl⟩, HB.out.trans (HB1.out.mono HB.out.size)⟩
    | true =>
      have HR' := (show Hid (O = decL x dn b) from HR.out)
      obtain ⟨x0, x1, x2, x3, x4, x5⟩ := six_of ((HB1.out.block N (blk_lt HN.out)).trans HN.out)
      obtain ⟨y0, y1, y2, y3⟩ := four_of ((HB1.out.block M (blk_lt HM.out)).trans HM.out)
      rw [← XP.out] at x5
      have KD1 := (show Hid _ from KD.out w1 HB1.out)
      rw [← HR'.out] at KD1
      clear HR KD hb1 KZ
      go_wp2_with fail
      refine Calls.mono KD1.out ?_
      rintro e w2 ⟨a2, c2, rfl, hs2, hb2⟩
      have HS2 := (show Hid _ from hs2)
      have HB2 := (show Hid _ from hb2)
      clear hs2 hb2 KD1
      go_wp2_with fail
      go_ret2
      exact ⟨a2, c2, rfl, HS2.out, HB.out.trans ((HB1.out.trans (HB2.out.mono HB1.out.size)).mono HB.out.size)⟩
  · have hq : (PS.toList == [83, 84, 82, 69, 65, 77, 73, 78, 71, 45, 65, 87, 83, 52, 45, 72, 77, 65, 67, 45, 83, 72, 65, 50, 53, 54, 45, 80, 65, 89, 76, 79, 65, 68]) = false := by rw [hq0, decide_eq_false hp]
    have HR := (show Hid (O = (b, 0)) from by show O = _; rw [HO.out, if_neg hp])
    clear hq0 hp HO KD KZ
    go_enter Tryd.func17, Tryd.ntmps17
    go_upto_region 1 with fail
    rw [← hW1, ← hW, ← hM, ← hN]
    clear hW1 hW hM hN
    go_wp2_with fail
    refine Calls.mono KC.out ?_
    rintro e w1 ⟨a1, c1, rfl, hs1, hb1⟩
    have HS1 := (show Hid _ from hs1)
    have HB1 := (show Hid (Below W.heap.size W w1) from hb1)
    clear hs1 hb1 KC
    go_wp2_with fail
    go_ret2
    rw [HR.out]
    exact ⟨a1, c1, rfl, HS1.out, HB.out.trans (HB1.out.mono HB.out.size)⟩
end Go.Proofs.YtgpjjlkkfddjnaaDoor

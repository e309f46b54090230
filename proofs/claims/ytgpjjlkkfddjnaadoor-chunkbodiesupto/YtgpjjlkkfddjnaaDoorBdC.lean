/-
  The document's Body.
-/
import Derived.Test.YtgpjjlkkfddjnaaDoorBdB
namespace Go.Proofs.YtgpjjlkkfddjnaaDoor
open Go.RowKit

def dszA : List (List UInt8) → Int × Bool
  | [x] => (En.intV x, En.intOk x && decide (En.intV x ≤ 1048576))
  | _ => (0, false)
theorem dszL_A (hs : List Hd) : dszL hs = dszA (allL hs dslT) := by
  unfold dszL
  generalize allL hs dslT = A
  match A with
  | [] => rfl
  | [_] => rfl
  | _ :: _ :: _ => rfl
set_option maxRecDepth 20000 in
set_option maxHeartbeats 4000000 in
theorem rbody_any (x : Wh) (ka : Option Addr) (kc : Nat) (m t : List UInt8) (ha : Option Addr) (hs : List Hd) (hc : Nat) (ba : Option Addr) (b : List UInt8) (bc : Nat) (w : World)
    (hx : WhOk w x ka kc) (hH : Hdrs w ha hs) (hhl : hs.length ≤ 1000000000) (hhv : ∀ h ∈ hs, h.2.length ≤ 1000000000) (hb : Sl w ba bc b) (hbl : b.length ≤ 1000000000) (hkn : ka = none → kc = 0) :
    Calls Tryd.prog 18 #[x.v ka kc, .agg #[.string ⟨m.toArray⟩, .string ⟨t.toArray⟩, .slice ha hs.length hc, .slice ba b.length bc]] w fun e w' => ∃ a' c', e = .returned (.tuple #[.slice a' (bodyL x hs b).1.length c', .int .i64 (bodyL x hs b).2]) ∧ Sl w' a' c' (bodyL x hs b).1 ∧ Below w.heap.size w w' := by
  obtain ⟨W1, hW1⟩ : ∃ W1, W1 = w.alloc (.cells #[.string ⟨x.id.toArray⟩, .string ⟨x.date.toArray⟩, .string ⟨x.scope.toArray⟩, .string ⟨x.sig.toArray⟩, .slice ka x.key.length kc, .string ⟨x.pay.toArray⟩] 30) := ⟨_, rfl⟩
  obtain ⟨W, hW⟩ : ∃ W, W = W1.alloc (.cells #[.string ⟨m.toArray⟩, .string ⟨t.toArray⟩, .slice ha hs.length hc, .slice ba b.length bc] 42) := ⟨_, rfl⟩
  obtain ⟨N, hN⟩ : ∃ N, N = w.heap.size := ⟨_, rfl⟩
  have hs1 : W1.heap.size = w.heap.size + 1 := by rw [hW1]; show (w.heap.push _).size = _; simp
  obtain ⟨M, hM⟩ : ∃ M, M = w.heap.size + 1 := ⟨_, rfl⟩
  have hb1 : Below w.heap.size w W1 := by rw [hW1]; exact (Below.refl _ _).alloc (Nat.le_refl _) _
  have hb2 : Below W1.heap.size W1 W := by rw [hW]; exact (Below.refl _ _).alloc (Nat.le_refl _) _
  have n1 : W1.heap[N]? = some (.cells #[.string ⟨x.id.toArray⟩, .string ⟨x.date.toArray⟩, .string ⟨x.scope.toArray⟩, .string ⟨x.sig.toArray⟩, .slice ka x.key.length kc, .string ⟨x.pay.toArray⟩] 30 (0, 0)) := by rw [hW1, hN]; exact heap_alloc_new w _
  have nN : W.heap[N]? = some (.cells #[.string ⟨x.id.toArray⟩, .string ⟨x.date.toArray⟩, .string ⟨x.scope.toArray⟩, .string ⟨x.sig.toArray⟩, .slice ka x.key.length kc, .string ⟨x.pay.toArray⟩] 30 (0, 0)) := (hb2.block N (blk_lt n1)).trans n1
  have nM : W.heap[M]? = some (.cells #[.string ⟨m.toArray⟩, .string ⟨t.toArray⟩, .slice ha hs.length hc, .slice ba b.length bc] 42 (0, 0)) := by rw [hW, hM, ← hs1]; exact heap_alloc_new W1 _
  have hbW : Below w.heap.size w W := hb1.trans (hb2.mono hb1.size)
  have HB := (show Hid (Below w.heap.size w W) from hbW)
  have HW := (show Hid (WhOk W x ka kc ∧ Hdrs W ha hs ∧ Sl W ba bc b ∧ (ka = none → kc = 0)) from ⟨hx.below hbW, hH.below hbW (Nat.le_refl _), hb.below hbW, hkn⟩)
  have HL := (show Hid (b.length ≤ 1000000000 ∧ hs.length ≤ 1000000000 ∧ ∀ h ∈ hs, h.2.length ≤ 1000000000) from ⟨hbl, hhl, hhv⟩)
  have HN := (show Hid _ from nN)
  have HM := (show Hid _ from nM)
  clear hx hH hb hkn hbl hhl hhv hb1 hb2 n1 hs1 hbW
  obtain ⟨x0, x1, x2, x3, x4, x5⟩ := six_of nN
  obtain ⟨y0, y1, y2, y3⟩ := four_of nM
  clear nN nM
  obtain ⟨PS, hPS⟩ : ∃ PS : ByteArray, PS = ⟨x.pay.toArray⟩ := ⟨_, rfl⟩
  have KZ := (show Hid _ from refAll_any ha hs hc dslT W HW.out.2.1 HL.out.2.1)
  have HV := (show Hid (∀ x ∈ allL hs dslT, x.length ≤ 1000000000) from fun x hx => by
    obtain ⟨k, hk⟩ := allL_val hx
    exact HL.out.2.2 _ hk)
  have hal := all_len hs dslT
  obtain ⟨O, hO⟩ : ∃ O, O = bodyL x hs b := ⟨_, rfl⟩
  rw [← hO]
  have HO := (show Hid (O = if x.pay = strmT then (if (dszA (allL hs dslT)).2 then decL x (dszA (allL hs dslT)).1 b else ([], 319)) else (b, 0)) from by show O = _; rw [hO, ← dszL_A]; rfl)
  have KD := (show Hid (∀ (d : Int) w1, Below W.heap.size W w1 → Calls Tryd.prog 10 #[x.v ka kc, .slice ba b.length bc, .int .i64 d] w1 fun e w' => ∃ a' c', e = .returned (.tuple #[.slice a' (decL x d b).1.length c', .int .i64 (decL x d b).2]) ∧ Sl w' a' c' (decL x d b).1 ∧ Below w1.heap.size w1 w') from fun d w1 h1 => rdecode_call d (HW.out.1.below h1) HW.out.2.2.2 (HW.out.2.2.1.below h1) HL.out.1)
  clear hO
  generalize allL hs dslT = A at *
  unfold Wh.v at KD ⊢
  rw [← hPS] at KD ⊢ hW1 x5
  have hq0 : (PS.toList == [83, 84, 82, 69, 65, 77, 73, 78, 71, 45, 65, 87, 83, 52, 45, 72, 77, 65, 67, 45, 83, 72, 65, 50, 53, 54, 45, 80, 65, 89, 76, 79, 65, 68]) = decide (x.pay = strmT) := by
    have e : PS.toList = x.pay := by rw [hPS, ByteArray.toList_mk]
    rw [e]
    show (x.pay == strmT) = _
    rw [Bool.eq_iff_iff, beq_iff_eq, decide_eq_true_iff]
  have XP := (show Hid (PS = ⟨x.pay.toArray⟩) from hPS)
  clear hPS
  by_cases hp : x.pay = strmT
  · have hq : (PS.toList == [83, 84, 82, 69, 65, 77, 73, 78, 71, 45, 65, 87, 83, 52, 45, 72, 77, 65, 67, 45, 83, 72, 65, 50, 53, 54, 45, 80, 65, 89, 76, 79, 65, 68]) = true := by rw [hq0, decide_eq_true hp]
    clear hq0
    go_enter Tryd.func18, Tryd.ntmps18
    go_upto_region 1 with fail
    rw [← hW1, ← hW, ← hM, ← hN]
    clear hW1 hW hM hN
    go_wp2_with fail
    refine Calls.mono KZ.out ?_
    rintro e w1 ⟨v, rfl, ho, hb1⟩
    obtain ⟨a1, c1, rfl, hs1⟩ := ho.strs
    rw [toB_len]
    have HB1 := (show Hid (Below W.heap.size W w1) from hb1)
    match A, HO, HV, hs1, hal with
    | [], HO, HV, hs1, hal =>
      have HR := (show Hid (O = ([], 319)) from by show O = _; rw [HO.out, if_pos hp]; rfl)
      clear HO HV hs1 ho KZ KD hb1 hp
      simp only [List.length_nil]
      go_wp2
      go_ret2
      rw [HR.out]
      exact ⟨none, 0, rfl, ⟨Nat.le_refl _, by decide, .inl rfl, (fun y hy => by cases hy), fun _ => rfl⟩, HB.out.trans (HB1.out.mono HB.out.size)⟩
    | [z], HO, HV, hs1, hal =>
      have HR0 := (show Hid (O = if (En.intOk z && decide (En.intV z ≤ 1048576)) then decL x (En.intV z) b else ([], 319)) from by show O = _; rw [HO.out, if_pos hp]; rfl)
      have hzl : z.length ≤ 1000000000 := HV.out z (by simp)
      rcases hs1 with h | ⟨bb, off, rfl, hbs, hcc⟩
      · simp [toB] at h
      · have c0 := hcc 0 (by simp [toB])
        rw [Nat.add_zero] at c0
        obtain ⟨X, hX⟩ : ∃ X : ByteArray, X = ⟨z.toArray⟩ := ⟨_, rfl⟩
        have c0' : w1.cell? ⟨bb, off, none⟩ = some (.string X) := by rw [hX]; exact c0
        have hXl : X.size ≤ 140737488351232 := by rw [hX]; show z.toArray.size ≤ _; simp; omega
        have KI := (show Hid _ from fun W => En.refInt_any X W hXl)
        have eX : X.data.toList = z := by rw [hX]
        rw [eX] at KI
        have hbd := intV_bd z
        obtain ⟨iv, hiv⟩ : ∃ iv, iv = En.intV z := ⟨_, rfl⟩
        obtain ⟨ok, hok⟩ : ∃ ok, ok = En.intOk z := ⟨_, rfl⟩
        rw [← hiv, ← hok] at HR0
        rw [← hiv, ← hok] at KI
        rw [← hiv] at hbd
        obtain ⟨x0, x1, x2, x3, x4, x5⟩ := six_of ((HB1.out.block N (blk_lt HN.out)).trans HN.out)
        obtain ⟨y0, y1, y2, y3⟩ := four_of ((HB1.out.block M (blk_lt HM.out)).trans HM.out)
        rw [← XP.out] at x5
        clear hiv hok eX hX c0 hcc HO HV KZ ho hb1 hXl hzl hp
        simp only [List.length_cons, List.length_nil, Nat.zero_add]
        cases ok with
        | false =>
          have HR := (show Hid (O = ([], 319)) from by show O = _; rw [HR0.out]; rfl)
          clear HR0 KD
          go_wp2_with (go_at_call 36; refine (KI.out _).mono ?_; rintro e w' ⟨rfl, rfl⟩)
          go_ret2
          rw [HR.out]
          exact ⟨none, 0, rfl, ⟨Nat.le_refl _, by decide, .inl rfl, (fun y hy => by cases hy), fun _ => rfl⟩, HB.out.trans (HB1.out.mono HB.out.size)⟩
        | true =>
          by_cases hle : iv ≤ 1048576
          · have HR := (show Hid (O = decL x iv b) from by show O = _; rw [HR0.out, decide_eq_true hle]; rfl)
            have KD1 := (show Hid _ from KD.out iv w1 HB1.out)
            rw [← HR.out] at KD1
            clear HR0 KD
            go_wp2_with (go_at_call 36; refine (KI.out _).mono ?_; rintro e w' ⟨rfl, rfl⟩)
            refine Calls.mono KD1.out ?_
            rintro e w2 ⟨a2, c2, rfl, hs2, hb2⟩
            have HS2 := (show Hid _ from hs2)
            have HB2 := (show Hid _ from hb2)
            clear hs2 hb2 KD1
            go_wp2_with fail
            go_ret2
            exact ⟨a2, c2, rfl, HS2.out, HB.out.trans ((HB1.out.trans (HB2.out.mono HB1.out.size)).mono HB.out.size)⟩
          · have HR := (show Hid (O = ([], 319)) from by show O = _; rw [HR0.out, decide_eq_false hle]; rfl)
            have hgt : 1048576 < iv := by omega
            clear HR0 KD hle
            go_wp2_with (go_at_call 36; refine (KI.out _).mono ?_; rintro e w' ⟨rfl, rfl⟩)
            go_ret2
            rw [HR.out]
            exact ⟨none, 0, rfl, ⟨Nat.le_refl _, by decide, .inl rfl, (fun y hy => by cases hy), fun _ => rfl⟩, HB.out.trans (HB1.out.mono HB.out.size)⟩
    | z :: y :: r, HO, HV, hs1, hal =>
      have HR := (show Hid (O = ([], 319)) from by show O = _; rw [HO.out, if_pos hp]; rfl)
      obtain ⟨mm, hm⟩ : ∃ mm, mm = (z :: y :: r).length := ⟨_, rfl⟩
      have hm1 : ((mm : Int) == 1) = false := by rw [beq_eq_false_iff_ne, hm, List.length_cons, List.length_cons]; omega
      rw [← hm]
      clear HO HV hs1 ho KZ KD hb1 hp hm hal
      go_wp2
      go_ret2
      rw [HR.out]
      exact ⟨none, 0, rfl, ⟨Nat.le_refl _, by decide, .inl rfl, (fun y hy => by cases hy), fun _ => rfl⟩, HB.out.trans (HB1.out.mono HB.out.size)⟩
  · have hq : (PS.toList == [83, 84, 82, 69, 65, 77, 73, 78, 71, 45, 65, 87, 83, 52, 45, 72, 77, 65, 67, 45, 83, 72, 65, 50, 53, 54, 45, 80, 65, 89, 76, 79, 65, 68]) = false := by rw [hq0, decide_eq_false hp]
    have HR := (show Hid (O = (b, 0)) from by show O = _; rw [HO.out, if_neg hp])
    clear hq0 hp HO KD KZ HV hal
    go_enter Tryd.func18, Tryd.ntmps18
    go_upto_region 1 with fail
    rw [← hW1, ← hW, ← hM, ← hN]
    clear hW1 hW hM hN
    go_wp2_with fail
    go_ret2
    rw [HR.out]
    exact ⟨ba, bc, rfl, HW.out.2.2.1, HB.out⟩
end Go.Proofs.YtgpjjlkkfddjnaaDoor

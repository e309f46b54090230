/-
  A version's record, read by the code's reader. (Written by tools/genrd2.py.)
-/
import Derived.Test.YtbhiabcgjnfpoaaGreatDoorRun17
namespace Go.Proofs.YtbhiabcgjnfpoaaGreatDoor
open Go.RowKit

theorem size30 : (Tryz.prog.info? 30).map (·.size) = some 12 := by kernel_rfl
def Ln (st : Option (List ByteArray)) : Prop := ∀ L, st = some L → L.length ≤ 8388608
theorem Eats.ln {one : Option (List ByteArray) → Option (List ByteArray)} (h : Eats one) {st : Option (List ByteArray)} (hl : Ln st) : Ln (one st) := by
  intro L hL
  obtain ⟨L1, e1, l1⟩ := h.len _ _ hL
  have := hl L1 e1
  omega
theorem own_base {w : World} {base base' : Nat} {e : TypeId} {size : Nat} {v : Value} {n : Nat} {xs : List Value} (h : w.ownsRow base e size v n xs) (hb : base' ≤ base) : w.ownsRow base' e size v n xs := by
  obtain ⟨h0, ⟨rfl, rfl⟩ | ⟨b, cap, cur, rfl, h1, hh, h2⟩⟩ := h
  · exact ⟨h0, .inl ⟨rfl, rfl⟩⟩
  · exact ⟨h0, .inr ⟨b, cap, cur, rfl, by omega, hh, h2⟩⟩

theorem setB12 {w : World} {g : Nat} {t : TypeId} {x0 x1 x2 x3 x4 x5 x6 x7 x8 x9 x10 x11 : Value} (h : w.heap[g]? = some (.cells #[x0, x1, x2, x3, x4, x5, x6, x7, x8, x9, x10, x11] t (0, 0))) (y0 y1 y2 y3 y4 y5 y6 y7 y8 y9 y10 y11 : Value) : ((((((((((((w.setCell ⟨g, 0, none⟩ y0).setCell ⟨g, 1, none⟩ y1).setCell ⟨g, 2, none⟩ y2).setCell ⟨g, 3, none⟩ y3).setCell ⟨g, 4, none⟩ y4).setCell ⟨g, 5, none⟩ y5).setCell ⟨g, 6, none⟩ y6).setCell ⟨g, 7, none⟩ y7).setCell ⟨g, 8, none⟩ y8).setCell ⟨g, 9, none⟩ y9).setCell ⟨g, 10, none⟩ y10).setCell ⟨g, 11, none⟩ y11).heap[g]? = some (.cells #[y0, y1, y2, y3, y4, y5, y6, y7, y8, y9, y10, y11] t (0, 0)) := by
  rw [set_blk (set_blk (set_blk (set_blk (set_blk (set_blk (set_blk (set_blk (set_blk (set_blk (set_blk (set_blk h 0 y0) 1 y1) 2 y2) 3 y3) 4 y4) 5 y5) 6 y6) 7 y7) 8 y8) 9 y9) 10 y10) 11 y11]
  simp
theorem setM12 {F : Nat → Prop} {w w1 : World} {g : Nat} (h : Md F w w1) (hp : F g ∨ w.heap.size ≤ g) (y0 y1 y2 y3 y4 y5 y6 y7 y8 y9 y10 y11 : Value) : Md F w ((((((((((((w1.setCell ⟨g, 0, none⟩ y0).setCell ⟨g, 1, none⟩ y1).setCell ⟨g, 2, none⟩ y2).setCell ⟨g, 3, none⟩ y3).setCell ⟨g, 4, none⟩ y4).setCell ⟨g, 5, none⟩ y5).setCell ⟨g, 6, none⟩ y6).setCell ⟨g, 7, none⟩ y7).setCell ⟨g, 8, none⟩ y8).setCell ⟨g, 9, none⟩ y9).setCell ⟨g, 10, none⟩ y10).setCell ⟨g, 11, none⟩ y11) := ((((((((((((h.set hp 0 y0).set hp 1 y1).set hp 2 y2).set hp 3 y3).set hp 4 y4).set hp 5 y5).set hp 6 y6).set hp 7 y7).set hp 8 y8).set hp 9 y9).set hp 10 y10).set hp 11 y11)

def vs1 (st : Option (List ByteArray)) : Option (List ByteArray) := tkS T1 (st)
def vs2 (st : Option (List ByteArray)) : Option (List ByteArray) := tkS nuG ((vs1 st))
def vs3 (st : Option (List ByteArray)) : Option (List ByteArray) := tkS flOk ((vs2 st))
def vs4 (st : Option (List ByteArray)) : Option (List ByteArray) := tkS flOk ((vs3 st))
def vs5 (st : Option (List ByteArray)) : Option (List ByteArray) := tkS T1 ((vs4 st))
def vs6 (st : Option (List ByteArray)) : Option (List ByteArray) := tkS nuG ((vs5 st))
def vs7 (st : Option (List ByteArray)) : Option (List ByteArray) := tkS nuG ((vs6 st))
def vs8 (st : Option (List ByteArray)) : Option (List ByteArray) := tkS T1 ((vs7 st))
def vs9 (st : Option (List ByteArray)) : Option (List ByteArray) := lsS prS ((vs8 st))
def vs10 (st : Option (List ByteArray)) : Option (List ByteArray) := lsS prS ((vs9 st))
def vs11 (st : Option (List ByteArray)) : Option (List ByteArray) := tkS nuG (tkS nuG ((vs10 st)))
theorem vs1_e : Eats vs1 := eats_take T1
theorem vs2_e : Eats vs2 := vs1_e.comp (eats_take nuG)
theorem vs3_e : Eats vs3 := vs2_e.comp (eats_take flOk)
theorem vs4_e : Eats vs4 := vs3_e.comp (eats_take flOk)
theorem vs5_e : Eats vs5 := vs4_e.comp (eats_take T1)
theorem vs6_e : Eats vs6 := vs5_e.comp (eats_take nuG)
theorem vs7_e : Eats vs7 := vs6_e.comp (eats_take nuG)
theorem vs8_e : Eats vs8 := vs7_e.comp (eats_take T1)
theorem vs9_e : Eats vs9 := vs8_e.comp (eats_list eats_pr)
theorem vs10_e : Eats vs10 := vs9_e.comp (eats_list eats_pr)
theorem vs11_e : Eats vs11 := vs10_e.comp ((eats_take nuG).comp (eats_take nuG))
/-- What is read. -/
def VerR (w w' : World) (Bd s f : Nat) (st : Option (List ByteArray)) (e : Ending) : Prop :=
  ∃ a8 n8 c8 a9 n9 c9, e = .returned (.agg #[.string (txV st), .int .i64 (nuV (vs1 st)), .bool (fgV (vs2 st)), .bool (fgV (vs3 st)), .string (txV (vs4 st)), .int .i64 (nuV (vs5 st)), .int .i64 (nuV (vs6 st)), .string (txV (vs7 st)), .slice a8 n8 c8, .slice a9 n9 c9, .int .i64 (nuV (vs10 st)), .int .i64 (nuV (tkS nuG (vs10 st)))]) ∧ Rd w' Bd s f (vs11 st) ∧ Md (fun b => b = s ∨ b = f) w w' ∧ ∀ L, (vs11 st) = some L → w'.ownsRow w.heap.size 81 2 (.slice a8 n8 c8) n8 (pcs (lsV prV prS (vs8 st))) ∧ n8 = (lsV prV prS (vs8 st)).length ∧ w'.ownsRow w.heap.size 72 2 (.slice a9 n9 c9) n9 (pcs (lsV prV prS (vs9 st))) ∧ n9 = (lsV prV prS (vs9 st)).length

set_option maxRecDepth 20000 in
set_option maxHeartbeats 8000000 in
theorem version1_any (kt ks Bd s f : Nat) (hT : Take kt) (hSn : Snd ks) (st : Option (List ByteArray)) (w : World) (hR : Rd w Bd s f st) (hsz : Sm st) (hln : Ln st) :
    Calls Tryz.prog 63 #[rdV kt ks s f] w fun e w' => VerR w w' Bd s f st e := by
  unfold rdV
  obtain ⟨Ft, hFt⟩ : ∃ Ft, Ft = Value.func (.func kt) #[] #[.pointer (some ⟨s, 0, none⟩), .pointer (some ⟨f, 0, none⟩)] := ⟨_, rfl⟩
  obtain ⟨Fs, hFs⟩ : ∃ Fs, Fs = Value.func (.func ks) #[] #[.pointer (some ⟨s, 0, none⟩)] := ⟨_, rfl⟩
  rw [← hFt, ← hFs]
  have HK50 : Hid (∀ W st, Rd W Bd s f st → Sm st → Calls Tryz.prog 50 #[.agg #[Ft, Fs]] W fun e w' => e = .returned (.string (txV st)) ∧ Rd w' Bd s f (tkS T1 st) ∧ Md (fun b => b = s ∨ b = f) W w') := by
    rw [hFt, hFs]
    exact fun W st h1 h2 => rtext_any kt ks Bd s f hT st W h1 h2
  have HK51 : Hid (∀ W st, Rd W Bd s f st → Sm st → Calls Tryz.prog 51 #[.agg #[Ft, Fs]] W fun e w' => e = .returned (.int .i64 (nuV st)) ∧ Rd w' Bd s f (tkS nuG st) ∧ Md (fun b => b = s ∨ b = f) W w') := by
    rw [hFt, hFs]
    exact fun W st h1 h2 => rnumber_any kt ks Bd s f hT st W h1 h2
  have HK54 : Hid (∀ W st, Rd W Bd s f st → Sm st → Ln st → Calls Tryz.prog 54 #[.agg #[Ft, Fs], .func (.func 55) #[] #[]] W fun e w' => LsR 72 W w' Bd s f st e) := by
    rw [hFt, hFs]
    exact fun W st h1 h2 h3 => readTags_any kt ks Bd s f hT hSn st W h1 h2 h3
  have HK64 : Hid (∀ W st, Rd W Bd s f st → Sm st → Calls Tryz.prog 64 #[.agg #[Ft, Fs]] W fun e w' => e = .returned (.bool (fgV st)) ∧ Rd w' Bd s f (tkS flOk st) ∧ Md (fun b => b = s ∨ b = f) W w') := by
    rw [hFt, hFs]
    exact fun W st h1 h2 => rflag_any kt ks Bd s f hT st W h1 h2
  have HK65 : Hid (∀ W st, Rd W Bd s f st → Sm st → Ln st → Calls Tryz.prog 65 #[.agg #[Ft, Fs], .func (.func 66) #[] #[]] W fun e w' => LsR 81 W w' Bd s f st e) := by
    rw [hFt, hFs]
    exact fun W st h1 h2 h3 => readHeaders_any kt ks Bd s f hT hSn st W h1 h2 h3
  have HK67 : Hid (∀ W st, Rd W Bd s f st → Sm st → Calls Tryz.prog 67 #[.agg #[Ft, Fs]] W fun e w' => e = .returned (.agg #[.int .i64 (nuV st), .int .i64 (nuV (tkS nuG st))]) ∧ Rd w' Bd s f (tkS nuG (tkS nuG st)) ∧ Md (fun b => b = s ∨ b = f) W w') := by
    rw [hFt, hFs]
    exact fun W st h1 h2 => readRef_any kt ks Bd s f hT st W h1 h2
  clear hFt hFs hT hSn
  go_enter Tryz.func63, Tryz.ntmps63
  go_wp2
  obtain ⟨W0, hW0⟩ : ∃ W0, W0 = (w.alloc (.cells #[Ft, Fs] 89)).alloc (.cells #[.string ⟨#[]⟩, .int .i64 0, .bool false, .bool false, .string ⟨#[]⟩, .int .i64 0, .int .i64 0, .string ⟨#[]⟩, .slice none 0 0, .slice none 0 0, .int .i64 0, .int .i64 0] 30) := ⟨_, rfl⟩
  rw [← hW0]
  obtain ⟨g, hg⟩ : ∃ g, g = w.heap.size := ⟨_, rfl⟩
  obtain ⟨h, hh⟩ : ∃ h, h = w.heap.size + 1 := ⟨_, rfl⟩
  rw [← hh, ← hg]
  have e1 : (w.alloc (.cells #[Ft, Fs] 89)).heap.size = w.heap.size + 1 := by show (w.heap.push _).size = _; simp
  have b1 : W0.heap[g]? = some (.cells #[Ft, Fs] 89 (0, 0)) := by rw [hW0, hg, heap_alloc_old _ _ (by omega)]; exact heap_alloc_new w _
  have b2 : W0.heap[h]? = some (.cells #[.string ⟨#[]⟩, .int .i64 0, .bool false, .bool false, .string ⟨#[]⟩, .int .i64 0, .int .i64 0, .string ⟨#[]⟩, .slice none 0 0, .slice none 0 0, .int .i64 0, .int .i64 0] 30 (0, 0)) := by rw [hW0, hh, ← e1]; exact heap_alloc_new _ _
  have hB : Below w.heap.size w W0 := by rw [hW0]; exact ((Below.refl _ w).alloc (Nat.le_refl _) _).alloc (by omega) _
  have hR0 : Rd W0 Bd s f st := hR.other hB
  have hlt := hR.lt
  have hlo := hR.lo
  have HM0 : Hid (Md (fun b => b = s ∨ b = f) w W0) := (Md.refl _ w).below hB
  have HN : Hid (w.heap.size ≤ h ∧ s ≠ h ∧ f ≠ h ∧ Bd ≤ h ∧ h < W0.heap.size ∧ s < W0.heap.size ∧ f < W0.heap.size) := ⟨by omega, by omega, by omega, by omega, blk_lt b2, hR0.lt.1, hR0.lt.2⟩
  have HG2 : Hid (W0.heap[h]? = some (.cells #[.string ⟨#[]⟩, .int .i64 0, .bool false, .bool false, .string ⟨#[]⟩, .int .i64 0, .int .i64 0, .string ⟨#[]⟩, .slice none 0 0, .slice none 0 0, .int .i64 0, .int .i64 0] 30 (0, 0)) ∧ ¬ (h = s ∨ h = f)) := ⟨b2, by omega⟩
  have HCE : Hid (∀ w', Md (fun b => b = s ∨ b = f ∨ b = h) W0 w' → w'.cell? ⟨g, 0, none⟩ = some Ft ∧ w'.cell? ⟨g, 1, none⟩ = some Fs ∧ Md (fun b => b = s ∨ b = f ∨ b = h) W0 w') := by
    intro w' hm
    have c1 := keep_blk b1 hm (by omega)
    exact ⟨cell_blk c1 0, cell_blk c1 1, hm⟩
  have hM0 : Md (fun b => b = s ∨ b = f) W0 W0.drew := (Md.refl _ W0).below ((Below.refl _ W0).drew)
  have HW : Hid (∀ w', Md (fun b => b = s ∨ b = f) W0 w' → Md (fun b => b = s ∨ b = f ∨ b = h) W0 w') := fun w' hm => hm.mono (fun b _ hb => by omega)
  have hN0 := HW.out _ hM0
  have hr0 : Rd W0.drew Bd s f st := hR0.other ((Below.refl _ W0).drew)
  have hsz0 := hsz
  have hln0 := hln
  have hsz1 := vs1_e.sm st hsz
  have hsz2 := vs2_e.sm st hsz
  have hsz3 := vs3_e.sm st hsz
  have hsz4 := vs4_e.sm st hsz
  have hsz5 := vs5_e.sm st hsz
  have hsz6 := vs6_e.sm st hsz
  have hsz7 := vs7_e.sm st hsz
  have hsz8 := vs8_e.sm st hsz
  have hln8 := vs8_e.ln hln
  have hsz9 := vs9_e.sm st hsz
  have hln9 := vs9_e.ln hln
  have hsz10 := vs10_e.sm st hsz
  clear hW0 hg hh e1 b1 b2 hB hR hR0 hlt hlo
  go_region_held3 (fun w' => w'.cell? ⟨g, 0, none⟩ = some Ft ∧ w'.cell? ⟨g, 1, none⟩ = some Fs ∧ Md (fun b => b = s ∨ b = f ∨ b = h) W0 w') (first | ((with_reducible refine HCE.out _ ?_); (with_reducible assumption)) | ((with_reducible refine HCE.out _ ((((((((((((Md.set ?_ (.inl (.inr (.inr rfl))) _ _).set (.inl (.inr (.inr rfl))) _ _).set (.inl (.inr (.inr rfl))) _ _).set (.inl (.inr (.inr rfl))) _ _).set (.inl (.inr (.inr rfl))) _ _).set (.inl (.inr (.inr rfl))) _ _).set (.inl (.inr (.inr rfl))) _ _).set (.inl (.inr (.inr rfl))) _ _).set (.inl (.inr (.inr rfl))) _ _).set (.inl (.inr (.inr rfl))) _ _).set (.inl (.inr (.inr rfl))) _ _).set (.inl (.inr (.inr rfl))) _ _)); (with_reducible assumption)))
    (first
      | (go_at_call 50; (with_reducible refine Calls.mono (HK50.out _ st hr0 hsz0) ?_); rintro e w1 ⟨rfl, hq1, hm1⟩; have hr1 : Rd w1 Bd s f (vs1 st) := hq1; have hM1 := Md.trans hM0 hm1; have hN1 := HW.out _ hM1)
      | (go_at_call 51; (with_reducible refine Calls.mono (HK51.out _ (vs1 st) hr1 hsz1) ?_); rintro e w2 ⟨rfl, hq2, hm2⟩; have hr2 : Rd w2 Bd s f (vs2 st) := hq2; have hM2 := Md.trans hM1 hm2; have hN2 := HW.out _ hM2)
      | (go_at_call 64; (with_reducible refine Calls.mono (HK64.out _ (vs2 st) hr2 hsz2) ?_); rintro e w3 ⟨rfl, hq3, hm3⟩; have hr3 : Rd w3 Bd s f (vs3 st) := hq3; have hM3 := Md.trans hM2 hm3; have hN3 := HW.out _ hM3)
      | (go_at_call 64; (with_reducible refine Calls.mono (HK64.out _ (vs3 st) hr3 hsz3) ?_); rintro e w4 ⟨rfl, hq4, hm4⟩; have hr4 : Rd w4 Bd s f (vs4 st) := hq4; have hM4 := Md.trans hM3 hm4; have hN4 := HW.out _ hM4)
      | (go_at_call 50; (with_reducible refine Calls.mono (HK50.out _ (vs4 st) hr4 hsz4) ?_); rintro e w5 ⟨rfl, hq5, hm5⟩; have hr5 : Rd w5 Bd s f (vs5 st) := hq5; have hM5 := Md.trans hM4 hm5; have hN5 := HW.out _ hM5)
      | (go_at_call 51; (with_reducible refine Calls.mono (HK51.out _ (vs5 st) hr5 hsz5) ?_); rintro e w6 ⟨rfl, hq6, hm6⟩; have hr6 : Rd w6 Bd s f (vs6 st) := hq6; have hM6 := Md.trans hM5 hm6; have hN6 := HW.out _ hM6)
      | (go_at_call 51; (with_reducible refine Calls.mono (HK51.out _ (vs6 st) hr6 hsz6) ?_); rintro e w7 ⟨rfl, hq7, hm7⟩; have hr7 : Rd w7 Bd s f (vs7 st) := hq7; have hM7 := Md.trans hM6 hm7; have hN7 := HW.out _ hM7)
      | (go_at_call 50; (with_reducible refine Calls.mono (HK50.out _ (vs7 st) hr7 hsz7) ?_); rintro e w8 ⟨rfl, hq8, hm8⟩; have hr8 : Rd w8 Bd s f (vs8 st) := hq8; have hM8 := Md.trans hM7 hm8; have hN8 := HW.out _ hM8)
      | (go_at_call 65; (with_reducible refine Calls.mono (HK65.out _ (vs8 st) hr8 hsz8 hln8) ?_); rintro e w9 ⟨v8, n8, rfl, ⟨a8, c8, rfl⟩, hq9, hm9, hL8⟩; have hr9 : Rd w9 Bd s f (vs9 st) := hq9; have hM9 := Md.trans hM8 hm9; have hN9 := HW.out _ hM9)
      | (go_at_call 54; (with_reducible refine Calls.mono (HK54.out _ (vs9 st) hr9 hsz9 hln9) ?_); rintro e w10 ⟨v9, n9, rfl, ⟨a9, c9, rfl⟩, hq10, hm10, hL9⟩; have hr10 : Rd w10 Bd s f (vs10 st) := hq10; have hM10 := Md.trans hM9 hm10; have hN10 := HW.out _ hM10)
      | (go_at_call 67; (with_reducible refine Calls.mono (HK67.out _ (vs10 st) hr10 hsz10) ?_); rintro e w11 ⟨rfl, hq11, hm11⟩; have hr11 : Rd w11 Bd s f (vs11 st) := hq11; have hM11 := Md.trans hM10 hm11; have hN11 := HW.out _ hM11; have hb := keep_blk HG2.out.1 hM11 HG2.out.2; have d0 := cell_blk hb 0; have d1 := cell_blk hb 1; have d2 := cell_blk hb 2; have d3 := cell_blk hb 3; have d4 := cell_blk hb 4; have d5 := cell_blk hb 5; have d6 := cell_blk hb 6; have d7 := cell_blk hb 7; have d8 := cell_blk hb 8; have d9 := cell_blk hb 9; have d10 := cell_blk hb 10; have d11 := cell_blk hb 11; have fz0 := frozen_blk hb 0; have fz1 := frozen_blk hb 1; have fz2 := frozen_blk hb 2; have fz3 := frozen_blk hb 3; have fz4 := frozen_blk hb 4; have fz5 := frozen_blk hb 5; have fz6 := frozen_blk hb 6; have fz7 := frozen_blk hb 7; have fz8 := frozen_blk hb 8; have fz9 := frozen_blk hb 9; have fz10 := frozen_blk hb 10; have fz11 := frozen_blk hb 11; simp only [List.getElem?_toArray] at d0 d1 d2 d3 d4 d5 d6 d7 d8 d9 d10 d11))
  have HE : Hid (Rd w11 Bd s f (vs11 st) ∧ Md (fun b => b = s ∨ b = f) W0 w11 ∧ w11.heap[h]? = some (.cells #[.string ⟨#[]⟩, .int .i64 0, .bool false, .bool false, .string ⟨#[]⟩, .int .i64 0, .int .i64 0, .string ⟨#[]⟩, .slice none 0 0, .slice none 0 0, .int .i64 0, .int .i64 0] 30 (0, 0))) := ⟨hr11, hM11, hb⟩
  have HL8 : Hid (∀ L, (vs9 st) = some L → (w11.ownsRow w.heap.size 81 2 (.slice a8 n8 c8) n8 (pcs (lsV prV prS (vs8 st))) ∧ n8 = (lsV prV prS (vs8 st)).length) ∧ ∀ j, (Value.slice a8 n8 c8).ownBlock = some j → j ≠ h) := by
    intro L hL
    obtain ⟨p1, p2⟩ := hL8 L hL
    have z1 := hM8.size
    have z0 := HM0.out.size
    have hne : ∀ j, (Value.slice a8 n8 c8).ownBlock = some j → j ≠ s ∧ j ≠ f ∧ j ≠ h := fun j hj => by
      have := (p1.lt j hj).1
      have := HN.out
      omega
    exact ⟨⟨own_base (own_md p1 (((Md.refl (fun b => b = s ∨ b = f) w9).trans hm10).trans hm11) (fun j hj hx => by have := hne j hj; omega)) (by omega), p2⟩, fun j hj => (hne j hj).2.2⟩
  have HL9 : Hid (∀ L, (vs10 st) = some L → (w11.ownsRow w.heap.size 72 2 (.slice a9 n9 c9) n9 (pcs (lsV prV prS (vs9 st))) ∧ n9 = (lsV prV prS (vs9 st)).length) ∧ ∀ j, (Value.slice a9 n9 c9).ownBlock = some j → j ≠ h) := by
    intro L hL
    obtain ⟨p1, p2⟩ := hL9 L hL
    have z1 := hM9.size
    have z0 := HM0.out.size
    have hne : ∀ j, (Value.slice a9 n9 c9).ownBlock = some j → j ≠ s ∧ j ≠ f ∧ j ≠ h := fun j hj => by
      have := (p1.lt j hj).1
      have := HN.out
      omega
    exact ⟨⟨own_base (own_md p1 ((Md.refl (fun b => b = s ∨ b = f) w10).trans hm11) (fun j hj hx => by have := hne j hj; omega)) (by omega), p2⟩, fun j hj => (hne j hj).2.2⟩
  have HP : Hid (∀ L, (vs11 st) = some L → (∃ L, (vs9 st) = some L) ∧ (∃ L, (vs10 st) = some L)) := by
    intro L hL
    have q11 : ∃ L, (vs11 st) = some L := ⟨L, hL⟩
    have q10 : ∃ L, (vs10 st) = some L := by obtain ⟨L1, h1⟩ := q11; obtain ⟨L2, h2, _⟩ := ((eats_take nuG).comp (eats_take nuG) : Eats _).len (vs10 st) L1 h1; exact ⟨L2, h2⟩
    have q9 : ∃ L, (vs9 st) = some L := by obtain ⟨L1, h1⟩ := q10; obtain ⟨L2, h2, _⟩ := (eats_list eats_pr : Eats _).len (vs9 st) L1 h1; exact ⟨L2, h2⟩
    exact ⟨q9, q10⟩
  clear HK50 HK51
  go_wp2
  (try simp only [Exit.inBlock, Exit.then])
  refine bodyPost_ret (results_cell_row rfl _ _ h 30 #[.string (txV st), .int .i64 (nuV (vs1 st)), .bool (fgV (vs2 st)), .bool (fgV (vs3 st)), .string (txV (vs4 st)), .int .i64 (nuV (vs5 st)), .int .i64 (nuV (vs6 st)), .string (txV (vs7 st)), .slice a8 n8 c8, .slice a9 n9 c9, .int .i64 (nuV (vs10 st)), .int .i64 (nuV (tkS nuG (vs10 st)))] (0, 0) _ rfl (setB12 HE.out.2.2 _ _ _ _ _ _ _ _ _ _ _ _) Tryz.underlying30 rfl size30) rfl ⟨_, _, _, _, _, _, rfl, ?_, ?_, ?_⟩
  · exact HE.out.1.md (setM12 (Md.refl (fun b => b = h) w11) (.inl rfl) _ _ _ _ _ _ _ _ _ _ _ _) HN.out.2.1 HN.out.2.2.1 (fun b hb he => by have := HN.out; omega)
  · exact (setM12 (HM0.out.then HE.out.2.1 (fun b _ hx => hx)) (.inr HN.out.1) _ _ _ _ _ _ _ _ _ _ _ _)
  · intro L hL
    have hp := HP.out L hL
    obtain ⟨L8, hL8⟩ := hp.1
    obtain ⟨⟨p8, r8⟩, s8⟩ := HL8.out L8 hL8
    obtain ⟨L9, hL9⟩ := hp.2
    obtain ⟨⟨p9, r9⟩, s9⟩ := HL9.out L9 hL9
    exact ⟨own_md p8 (setM12 (Md.refl (fun b => b = h) w11) (.inl rfl) _ _ _ _ _ _ _ _ _ _ _ _) (fun j hj hx => s8 j hj hx), r8, own_md p9 (setM12 (Md.refl (fun b => b = h) w11) (.inl rfl) _ _ _ _ _ _ _ _ _ _ _ _) (fun j hj hx => s9 j hj hx), r9⟩

end Go.Proofs.YtbhiabcgjnfpoaaGreatDoor

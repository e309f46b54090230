/-
  A chunk is read (reader.chunk).
-/
import Derived.Test.YtgpjjlkkfddjnaaDoorNum
namespace Go.Proofs.YtgpjjlkkfddjnaaDoor
open Go.RowKit

theorem Er.md {p : Nat} {w w' : World} (h : Er w) (hm : Md (· = p) w w') (hp : 3 < p) : Er w' := by
  obtain ⟨⟨e1, h1, h2⟩, e2, h3, h4⟩ := h
  have p1 : 2 < w.heap.size := block_lt_of_cell h1
  have p2 : 3 < w.heap.size := block_lt_of_cell h3
  exact ⟨⟨e1, (World.cell?_of_block (w := w) (a := ⟨2, 0, none⟩) (hm.block 2 p1 (by omega))).trans h1, h2⟩, e2, (World.cell?_of_block (w := w) (a := ⟨3, 0, none⟩) (hm.block 3 p2 (by omega))).trans h3, h4⟩
theorem tk_rest (n : Nat) (s : RS) : (tkS n s).2.1.length ≤ s.1.length := by
  unfold tkS
  split
  · split
    · exact Nat.le_refl _
    · simp
  · exact Nat.le_refl _
theorem ex_rest (b : Bool) (s : RS) : (exS b s).1.length ≤ s.1.length := by rw [exS_rest]; exact Nat.le_refl _
theorem dg_rest (least most : Nat) (s : RS) : (dgS least most s).2.1.length ≤ s.1.length := Nat.le_trans (tk_rest _ _) (ex_rest _ _)
theorem tx_rest (t : List UInt8) (s : RS) : (txS t s).1.length ≤ s.1.length := Nat.le_trans (tk_rest _ _) (ex_rest _ _)
theorem tk_len (n : Nat) (s : RS) : (tkS n s).1.length ≤ n := by
  unfold tkS
  split
  · split
    · exact Nat.zero_le _
    · rw [List.length_take]; omega
  · exact Nat.zero_le _
/-- What is taken as digits are digits, unless nothing is taken at all. -/
theorem dg_isDg {least most : Nat} {s : RS} : ∀ c ∈ (dgS least most s).1, isDg c = true := by
  intro c hc
  by_cases h0 : (exS (decide (least ≤ dnL most s.1) || decide (dnL most s.1 = s.1.length)) s).2 = 0
  · have hb : s.2 = 0 ∧ (decide (least ≤ dnL most s.1) || decide (dnL most s.1 = s.1.length)) = true := by
      unfold exS at h0
      split at h0
      · cases h0
      · next h =>
        refine ⟨h0, ?_⟩
        cases hx : (decide (least ≤ dnL most s.1) || decide (dnL most s.1 = s.1.length)) with
        | true => rfl
        | false => exact absurd ⟨h0, hx⟩ h
    have he : exS (decide (least ≤ dnL most s.1) || decide (dnL most s.1 = s.1.length)) s = s := by rw [hb.2]; simp [exS]
    rw [dgS, he] at hc
    unfold tkS at hc
    rw [if_pos hb.1] at hc
    split at hc
    · simp at hc
    · next hlt =>
      have hk := dnL_le most s.1
      have hm : max (dnL most s.1) least = dnL most s.1 := by
        have h2 := hb.2
        simp only [Bool.or_eq_true, decide_eq_true_eq] at h2
        rcases h2 with h2 | h2 <;> omega
      simp only [hm] at hc
      exact dg_digits c hc
  · rw [dgS, tkS_fault h0] at hc
    simp at hc
theorem dg_len {least most : Nat} {s : RS} (h : least ≤ most) : (dgS least most s).1.length ≤ most := by
  have := tk_len (max (dnL most s.1) least) (exS (decide (least ≤ dnL most s.1) || decide (dnL most s.1 = s.1.length)) s)
  have h2 := dnL_le most s.1
  rw [dgS]
  omega
/-- What is told of a chunk. -/
structure CkT (w w' : World) (p B : Nat) (r : CkR) (e : Ending) : Prop where
  told : ∃ da dc, e = .returned (.tuple #[.slice da r.data.length dc, .string ⟨r.sig.toArray⟩]) ∧ r.data.length ≤ dc ∧ Bytes w' da r.data ∧ (∀ x, da = some x → x.spot = none ∧ x.block < B) ∧ (da = none → dc = 0)
  rest : ∃ a cap, Rx w' p B a cap r.s
  md : Md (· = p) w w'
theorem ck_yes {s : RS} (h : numL (dgS 1 8 s).1 = 0) : (ckS s).s = exS (decide ((txS crT (tkS (numL (dgS 1 8 s).1) (txS crT (dgS 64 64 (txS sigT (dgS 1 8 s).2)).2)).2).1 = [])) (txS crT (tkS (numL (dgS 1 8 s).1) (txS crT (dgS 64 64 (txS sigT (dgS 1 8 s).2)).2)).2) := by
  simp only [ckS, if_pos h]
theorem ck_no {s : RS} (h : ¬ numL (dgS 1 8 s).1 = 0) : (ckS s).s = txS crT (tkS (numL (dgS 1 8 s).1) (txS crT (dgS 64 64 (txS sigT (dgS 1 8 s).2)).2)).2 := by
  simp only [ckS, if_neg h]
set_option maxRecDepth 20000 in
set_option maxHeartbeats 4000000 in
theorem chunk_any (p B : Nat) (a : Option Addr) (cap : Nat) (s : RS) (w : World) (h : Rx w p B a cap s) (hl : s.1.length ≤ 1000000000) (he : Er w) (hB : 3 < B) :
    Calls Tryd.prog 19 #[.pointer (some ⟨p, 0, none⟩)] w fun e w' => CkT w w' p B (ckS s) e := by
  have HP : Hid (3 < p) := by have := h.bp; show _ < _; omega
  have HE : Hid (Er w) := he
  have K1 := (show Hid _ from digits_any p B a cap s 1 8 w h (by omega) (by omega) hl)
  have HY := (show Hid _ from ck_yes (s := s))
  have HNO := (show Hid _ from ck_no (s := s))
  have HD := (show Hid ((ckS s).data = (tkS (numL (dgS 1 8 s).1) (txS crT (dgS 64 64 (txS sigT (dgS 1 8 s).2)).2)).1 ∧ (ckS s).sig = (dgS 64 64 (txS sigT (dgS 1 8 s).2)).1) from ⟨rfl, rfl⟩)
  obtain ⟨r, hr⟩ : ∃ r, r = ckS s := ⟨_, rfl⟩
  rw [← hr] at HY HNO HD ⊢
  have hd1 := dg_isDg (least := 1) (most := 8) (s := s)
  have hd2 := dg_len (least := 1) (most := 8) (s := s) (by omega)
  have hd3 := dg_rest 1 8 s
  obtain ⟨D, hDD⟩ : ∃ D, D = dgS 1 8 s := ⟨_, rfl⟩
  rw [← hDD] at K1 HY HNO HD hd1 hd2 hd3
  have K2 := (show Hid (∀ W, Er W → _) from fun W hW => number_any D.1 W hd1 hd2 hW)
  have hn := num_small hd1 hd2
  obtain ⟨n, hn2⟩ : ∃ n, n = numL D.1 := ⟨_, rfl⟩
  rw [← hn2] at K2 HY HNO HD hn
  have hl3 := tx_rest sigT D.2
  obtain ⟨S2, hS2⟩ : ∃ S2, S2 = txS sigT D.2 := ⟨_, rfl⟩
  rw [← hS2] at HY HNO HD hl3
  have hl4 := dg_rest 64 64 S2
  obtain ⟨G, hG⟩ : ∃ G, G = dgS 64 64 S2 := ⟨_, rfl⟩
  rw [← hG] at HY HNO HD hl4
  have hl5 := tx_rest crT G.2
  obtain ⟨S4, hS4⟩ : ∃ S4, S4 = txS crT G.2 := ⟨_, rfl⟩
  rw [← hS4] at HY HNO HD hl5
  have hl6 := tk_rest n S4
  obtain ⟨X, hX⟩ : ∃ X, X = tkS n S4 := ⟨_, rfl⟩
  rw [← hX] at HY HNO HD hl6
  obtain ⟨E6, hE6⟩ : ∃ E6, E6 = txS crT X.2 := ⟨_, rfl⟩
  rw [← hE6] at HY HNO
  have HR := (show Hid (S2 = txS sigT D.2 ∧ G = dgS 64 64 S2 ∧ S4 = txS crT G.2 ∧ X = tkS n S4 ∧ E6 = txS crT X.2) from ⟨hS2, hG, hS4, hX, hE6⟩)
  have HLN := (show Hid (D.2.1.length ≤ 1000000000 ∧ S2.1.length ≤ 1000000000 ∧ G.2.1.length ≤ 1000000000 ∧ S4.1.length ≤ 1000000000 ∧ X.2.1.length ≤ 1000000000) from by refine ⟨?_, ?_, ?_, ?_, ?_⟩ <;> omega)
  clear hr hDD hn2 hS2 hG hS4 hX hE6 hd1 hd2 hd3 hl3 hl4 hl5 hl6 h hl he hB
  go_enter Tryd.func19, Tryd.ntmps19
  go_wp2_with fail
  refine Calls.mono K1.out ?_
  rintro e w1 ⟨rfl, ⟨a1, c1, r1⟩, m1⟩
  have M1 := (show Hid (Md (· = p) w w1) from m1)
  have R1 := (show Hid _ from r1)
  have E1 := (show Hid (Er w1) from HE.out.md m1 HP.out)
  clear m1 r1 K1
  go_wp2_with fail
  refine Calls.mono (K2.out w1 E1.out) ?_
  rintro e w2 ⟨rfl, b2⟩
  have M2 := (show Hid (Md (· = p) w w2) from M1.out.below b2)
  have R2 := (show Hid _ from R1.out.keep b2)
  clear b2 K2
  go_wp2_with fail
  refine Calls.mono (text_any p B a1 c1 D.2 sigT w2 R2.out (by decide) HLN.out.1) ?_
  rw [← HR.out.1]
  rintro e w3 ⟨rfl, ⟨a3, c3, r3⟩, m3⟩
  have M3 := (show Hid (Md (· = p) w w3) from M2.out.trans m3)
  have R3 := (show Hid _ from r3)
  clear m3 r3
  go_wp2_with fail
  refine Calls.mono (digits_any p B a3 c3 S2 64 64 w3 R3.out (by omega) (by omega) HLN.out.2.1) ?_
  rw [← HR.out.2.1]
  rintro e w4 ⟨rfl, ⟨a4, c4, r4⟩, m4⟩
  have M4 := (show Hid (Md (· = p) w w4) from M3.out.trans m4)
  have R4 := (show Hid _ from r4)
  clear m4 r4
  go_wp2_with fail
  refine Calls.mono (text_any p B a4 c4 G.2 crT w4 R4.out (by decide) HLN.out.2.2.1) ?_
  rw [← HR.out.2.2.1]
  rintro e w5 ⟨rfl, ⟨a5, c5, r5⟩, m5⟩
  have M5 := (show Hid (Md (· = p) w w5) from M4.out.trans m5)
  have R5 := (show Hid _ from r5)
  clear m5 r5
  go_wp2_with fail
  refine Calls.mono (take_any p B a5 c5 S4 n w5 R5.out (by omega)) ?_
  rw [← HR.out.2.2.2.1]
  rintro e w6 h6
  obtain ⟨⟨da, dc, rfl, hdc, hB6, hlo6, han6⟩, ⟨a6, c6, r6⟩, m6⟩ := h6
  have M6 := (show Hid (Md (· = p) w w6) from M5.out.trans m6)
  have R6 := (show Hid _ from r6)
  have T6 := (show Hid (X.1.length ≤ dc ∧ Bytes w6 da X.1 ∧ (∀ x, da = some x → x.spot = none ∧ x.block < B) ∧ (da = none → dc = 0)) from ⟨hdc, hB6, hlo6, han6⟩)
  clear m6 r6 hdc hB6 hlo6 han6
  go_wp2_with fail
  refine Calls.mono (text_any p B a6 c6 X.2 crT w6 R6.out (by decide) HLN.out.2.2.2.2) ?_
  rw [← HR.out.2.2.2.2]
  rintro e w7 ⟨rfl, ⟨a7, c7, r7⟩, m7⟩
  have M7 := (show Hid (Md (· = p) w w7) from M6.out.trans m7)
  have R7 := (show Hid _ from r7)
  have B7 := (show Hid (Bytes w7 da X.1) from T6.out.2.1.md m7 (fun b off e => by have h1 := (T6.out.2.2.1 _ e).2; have h2 := r7.bp; simp only at h1; omega))
  clear m7 r7
  by_cases h0 : n = 0
  · have HYY := (show Hid _ from HY.out h0)
    have c0 : w7.cell? ⟨p, 0, none⟩ = some (.slice a7 E6.1.length c7) := (cell_blk R7.out.box 0).trans rfl
    have hni : (n : Int) = 0 := by omega
    go_wp2_with fail
    refine Calls.mono (expect_any p B a7 c7 E6 _ w7 R7.out) ?_
    rintro e w8 ⟨rfl, r8, m8⟩
    have M8 := (show Hid (Md (· = p) w w8) from M7.out.trans m8)
    have R8 := (show Hid _ from r8)
    have B8 := (show Hid (Bytes w8 da X.1) from B7.out.md m8 (fun b off e => by have h1 := (T6.out.2.2.1 _ e).2; have h2 := r8.bp; simp only at h1; omega))
    clear m8 r8 c0
    go_wp2
    go_ret2
    refine ⟨⟨da, dc, (by rw [HD.out.1, HD.out.2] <;> rfl), by rw [HD.out.1]; exact T6.out.1, by rw [HD.out.1]; exact B8.out, T6.out.2.2.1, T6.out.2.2.2⟩, ⟨a7, c7, ?_⟩, M8.out⟩
    rw [HYY.out]
    have hx : decide (E6.1 = []) = ((E6.1.length : Int) == 0) := by
      rw [Bool.eq_iff_iff]
      simp
    rw [hx]
    exact R8.out
  · have HYY := (show Hid _ from HNO.out h0)
    have hni : ¬ (n : Int) = 0 := by omega
    go_wp2
    go_ret2
    refine ⟨⟨da, dc, (by rw [HD.out.1, HD.out.2] <;> rfl), by rw [HD.out.1]; exact T6.out.1, by rw [HD.out.1]; exact B7.out, T6.out.2.2.1, T6.out.2.2.2⟩, ⟨a7, c7, ?_⟩, M7.out⟩
    rw [HYY.out]
    exact R7.out
end Go.Proofs.YtgpjjlkkfddjnaaDoor

/-
  The document's reader: attribute.
-/
import Derived.Test.YtohkocknpmnakaaGreatDoorRun41
namespace Go.Proofs.YtohkocknpmnakaaGreatDoor
open Go.RowKit

def badB (c : UInt8) : Bool := c == 60 || c == 38
theorem upto_step {m : UInt8} {L : List UInt8} {j : Nat} (hj : j < L.length) (h : L[j] ≠ m) : upto m (L.drop j) = L[j] :: upto m (L.drop (j + 1)) := by
  have hd : L.drop j = L[j] :: L.drop (j + 1) := (List.getElem_cons_drop ..).symm
  rw [hd]
  unfold upto
  rw [List.takeWhile_cons_of_pos (by simpa using h)]
theorem upto_stop {m : UInt8} {L : List UInt8} {j : Nat} (hj : j < L.length) (h : L[j] = m) : upto m (L.drop j) = [] := by
  have hd : L.drop j = L[j] :: L.drop (j + 1) := (List.getElem_cons_drop ..).symm
  rw [hd]
  unfold upto
  rw [List.takeWhile_cons_of_neg (by simpa using h)]
theorem quo_hit {m : UInt8} {L : List UInt8} {j : Nat} (hm : m = 34 ∨ m = 39) (hu : upto m L = L.take j) (hj : j < L.length) (ha : (L.take j).any badB = false) : quoL (m :: L) = some (L.drop (j + 1)) := by
  have hl : (L.take j).length = j := by rw [List.length_take]; omega
  simp only [quoL, hm, if_true, hu, hl]
  rw [if_neg]
  rintro (h | h)
  · omega
  · rw [show (L.take j).any (fun c => c == 60 || c == 38) = (L.take j).any badB from rfl, ha] at h
    cases h
theorem quo_end {m : UInt8} {L : List UInt8} (hu : (upto m L).length = L.length) : quoL (m :: L) = none := by
  simp only [quoL]
  split
  · rw [if_pos (.inl hu)]
  · rfl
theorem quo_bad {m c : UInt8} {L x r : List UInt8} (hu : upto m L = x ++ c :: r) (hc : badB c = true) : quoL (m :: L) = none := by
  simp only [quoL]
  split
  · rw [if_pos]
    right
    rw [hu, List.any_append, List.any_cons, show (c == 60 || c == 38) = badB c from rfl, hc]
    simp
  · rfl

/-- How attribute ends. -/
def AtR (l : List UInt8) (k p : Nat) (b : Bool) (w : World) (e : Ending) (w' : World) : Prop :=
  ∃ k' r, e = .returned (.bool r) ∧ Rr w' p l k' b ∧ Md (fun b => b = p) w w' ∧ ((r = true ∧ k < k' ∧ k' ≤ l.length ∧ nmL (l.drop k) ≠ [] ∧ atrL (l.drop k) = some (l.drop k')) ∨ (r = false ∧ k' ≤ l.length + 1 ∧ (nmL (l.drop k) = [] ∨ atrL (l.drop k) = none)))

set_option maxRecDepth 20000 in
set_option maxHeartbeats 3200000 in
theorem attr_ref (p k : Nat) (l : List UInt8) (b : Bool) (w : World) (h : Rr w p l k b) (hk : k ≤ l.length) (hl : l.length ≤ 65536) :
    Calls Tryz.prog 65 #[.pointer (some ⟨p, 0, none⟩)] w fun e w' => AtR l k p b w e w' := by
  have K1 := rname_ref p k l b w h hk hl
  clear h
  go_enter Tryz.func65, Tryz.ntmps65
  go_wp2_with fail
  refine K1.mono ?_
  rintro e w1 ⟨rfl, hr, hm⟩
  by_cases hn : nmL (l.drop k) = []
  · rw [hn] at hr
    have HZ : Hid (Rr w1 p l k b ∧ Md (fun b => b = p) w w1) := ⟨hr, hm⟩
    have HN : Hid (nmL (l.drop k) = []) := hn
    rw [hn]
    clear hr hm hn K1
    go_wp2_with fail
    go_ret
    exact ⟨k, false, rfl, HZ.out.1, HZ.out.2, .inr ⟨rfl, by omega, .inl HN.out⟩⟩
  · obtain ⟨q, hq⟩ : ∃ q, q = nmL (l.drop k) := ⟨_, rfl⟩
    rw [← hq] at hr hn ⊢
    have hql : k + q.length ≤ l.length := by
      have := nm_le (l.drop k)
      rw [← hq] at this
      simp only [List.length_drop] at this
      omega
    have hq0 : 0 < q.length := List.length_pos_iff.2 hn
    have hqe : q.isEmpty = false := by simpa using hn
    have HQ : Hid (q = nmL (l.drop k) ∧ q ≠ []) := ⟨hq, hn⟩
    obtain ⟨k1, hk1⟩ : ∃ k1, k1 = k + q.length := ⟨_, rfl⟩
    rw [← hk1] at hr hql
    have H1 : Hid (Rr w1 p l k1 b ∧ Md (fun b => b = p) w w1 ∧ k1 = k + q.length) := ⟨hr, hm, hk1⟩
    have K2 := eat_ref p k1 l [58] b w1 hr hql hl (by decide)
    clear hr hm hn hq hk1 K1
    go_wp2_with fail
    refine K2.mono ?_
    rintro e w2 ⟨rfl, hr, hm⟩
    clear K2
    cases hc : Lib.hasPrefix (l.drop k1) [58] with
    | false =>
      rw [hc] at hr
      have H2 : Hid (Rr w2 p l k1 b ∧ Md (fun b => b = p) w w2 ∧ colL (l.drop k1) = some (l.drop k1)) := ⟨hr, H1.out.2.1.then hm (fun _ _ h => h), by unfold colL eat; rw [hc]; rfl⟩
      clear hr hm hc
      go_wp2_with fail
      obtain ⟨a, ha⟩ : ∃ a, a = k1 := ⟨_, rfl⟩
      have H4 : Hid (Rr w2 p l a b ∧ Md (fun b => b = p) w w2 ∧ colL (l.drop k1) = some (l.drop a) ∧ k < a) := by
        subst ha
        exact ⟨H2.out.1, H2.out.2.1, H2.out.2.2, by have := H1.out.2.2; omega⟩
      replace ha : a ≤ l.length := by omega
      obtain ⟨w4, hw4⟩ : ∃ w4, w4 = w2 := ⟨_, rfl⟩
      rw [← hw4] at H4 ⊢
      clear hw4 H2
      have K4 := skip_ref p a l b w4 H4.out.1 ha hl
      refine K4.mono ?_
      rintro e w5 ⟨a1, rfl, ha1, ha2, hd, hr, hm⟩
      have H5 : Hid (Rr w5 p l a1 b ∧ Md (fun b => b = p) w w5 ∧ l.drop a1 = skp (l.drop a)) := ⟨hr, H4.out.2.1.then hm (fun _ _ h => h), hd⟩
      have K5 := eat_ref p a1 l [61] b w5 hr ha2 hl (by decide)
      clear hr hm hd K4
      go_wp2_with fail
      refine K5.mono ?_
      rintro e w6 ⟨rfl, hr, hm⟩
      clear K5
      cases he : Lib.hasPrefix (l.drop a1) [61] with
      | false =>
        rw [he] at hr
        have HZ : Hid (Rr w6 p l a1 b ∧ Md (fun b => b = p) w w6 ∧ atrL (l.drop k) = none) := ⟨hr, H5.out.2.1.then hm (fun _ _ h => h), by
          unfold atrL
          rw [← HQ.out.1, List.drop_drop, ← H1.out.2.2, H4.out.2.2.1, Option.bind_some, ← H5.out.2.2]
          unfold eat
          rw [he]
          rfl⟩
        clear hr hm he
        go_wp2_with fail
        go_ret
        exact ⟨a1, false, rfl, HZ.out.1, HZ.out.2.1, .inr ⟨rfl, by omega, .inr HZ.out.2.2⟩⟩
      | true =>
        rw [he] at hr
        have hk2 : a1 + 1 ≤ l.length := by
          obtain ⟨r, hrr⟩ := (hasPrefix_iff _ _).1 he
          have := congrArg List.length hrr
          simp only [List.length_drop, List.length_append, List.length_cons, List.length_nil] at this
          omega
        have HE : Hid (atrL (l.drop k) = quoL (skp (l.drop (a1 + 1)))) := by
          show _ = _
          unfold atrL
          rw [← HQ.out.1, List.drop_drop, ← H1.out.2.2, H4.out.2.2.1, Option.bind_some, ← H5.out.2.2]
          unfold eat
          rw [he, if_pos rfl, Option.bind_some, List.drop_drop]
          rfl
        have H6 : Hid (Rr w6 p l (a1 + 1) b ∧ Md (fun b => b = p) w w6) := ⟨hr, H5.out.2.1.then hm (fun _ _ h => h)⟩
        have K6 := skip_ref p (a1 + 1) l b w6 H6.out.1 hk2 hl
        clear hr hm he
        go_wp2_with fail
        refine K6.mono ?_
        rintro e w7 ⟨a2, rfl, ha3, ha4, hd, hr, hm⟩
        have H7 : Hid (Rr w7 p l a2 b ∧ Md (fun b => b = p) w w7 ∧ atrL (l.drop k) = quoL (l.drop a2) ∧ k < a2) := ⟨hr, H6.out.2.then hm (fun _ _ h => h), by rw [HE.out, hd], by have := H4.out.2.2.2; omega⟩
        clear hr hm hd K6 HE
        obtain ⟨⟨c0, c1, -⟩, -, f1, -⟩ := H7.out.1.cells
        obtain ⟨s, hs⟩ : ∃ s : ByteArray, s = ⟨l.toArray⟩ := ⟨_, rfl⟩
        have HS : Hid (s = ⟨l.toArray⟩ ∧ s.size = l.length) := ⟨hs, by rw [hs, mk_size]⟩
        have hsz : l.length = s.size := HS.out.2.symm
        rw [← hs] at c0
        have hss : s.size ≤ 65536 := by omega
        have HK : Hid (a2 ≤ l.length ∧ l.length ≤ 65536) := ⟨ha4, hl⟩
        clear hs hqe hq0 hql ha1 ha2 ha3 ha4 ha hk hk2
        by_cases hlt : a2 < s.size
        · have hai : ¬ (s.size : Int) ≤ (a2 : Int) := by omega
          have hgd : decide ((s.size : Int) ≤ (a2 : Int)) = false := decide_eq_false hai
          have hgN : decide (s.size ≤ a2) = false := decide_eq_false (by omega)
          have hal : a2 < l.length := by omega
          have hsc := at_ba s l HS.out.1 a2 hlt hal
          have hd : l.drop a2 = l[a2] :: l.drop (a2 + 1) := (List.getElem_cons_drop ..).symm
          by_cases hmk : l[a2] = 34 ∨ l[a2] = 39
          · have hmN : s[a2].toNat = 34 ∨ s[a2].toNat = 39 := by
              rw [hsc]
              rcases hmk with h | h
              · exact .inl (by rw [h]; rfl)
              · exact .inr (by rw [h]; rfl)
            have HMM : Hid (s[a2] = l[a2] ∧ (l[a2] = 34 ∨ l[a2] = 39) ∧ l.drop a2 = l[a2] :: l.drop (a2 + 1)) := ⟨hsc, hmk, hd⟩
            clear hsc hmk hd
            generalize hmm : l[a2] = m at HMM
            obtain ⟨L, hL⟩ : ∃ L, L = l.drop (a2 + 1) := ⟨_, rfl⟩
            have HL : Hid (L = l.drop (a2 + 1) ∧ L.length + a2 + 1 = l.length) := ⟨hL, by rw [hL, List.length_drop]; omega⟩
            clear hmm hL
            have HMN : Hid (s[a2].toNat = 34 ∨ s[a2].toNat = 39) := hmN
            clear hmN
            obtain ⟨M, hM⟩ : ∃ M, M = s[a2].toNat := ⟨_, rfl⟩
            have HMv : Hid (M = m.toNat) := by show _ = _; rw [hM, HMM.out.1]
            have HQ2 : Hid ((m = 34 ∨ m = 39) ∧ l.drop a2 = m :: L) := ⟨HMM.out.2.1, by rw [HMM.out.2.2, HL.out.1]⟩
            rcases HMN.out with hmN | hmN
            rotate_left
            · have g34 : ((s[a2].toNat : Int) != 34) = true := by rw [hmN]; rfl
              have g39 : ((s[a2].toNat : Int) != 39) = false := by rw [hmN]; rfl
              clear hmN
              have HMe : Hid (M = s[a2].toNat) := hM
              clear hM
              go_wp2_with fail
              go_quiet (fail)
              go_wp2
              go_quiet (fail)
              go_wp2
              rw [← HMe.out]
              clear g34 g39 HMe
              generalize hw8 : World.setCell _ _ _ = w8
              have HW : Hid (Rr w8 p l (a2 + 1) b ∧ Md (fun b => b = p) w w8) := by
                rw [← hw8]
                refine ⟨?_, (H7.out.2.1.below (below_drewN (Below.refl _ _) _)).set (.inl rfl) _ _⟩
                exact (H7.out.1.keep (Md.ofBelow (F := fun _ => False) (below_drewN (Below.refl _ _) _)) (fun h => h)).at (a2 + 1)
              clear hw8 c0 c1 f1 hai hgd hgN HMM HMN hlt hal
              go_loopg [] L.length (fun gf wx => ∃ j : Nat, j ≤ L.length ∧ L.length ≤ j + gf ∧ upto m L = L.take j ++ upto m (L.drop j) ∧ (L.take j).any badB = false ∧ Rr wx p l (a2 + 1 + j) b ∧ Md (fun b => b = p) w wx)
              case atStart => exact ⟨0, by omega, by omega, by simp, by simp, HW.out.1, HW.out.2⟩
              case round =>
                obtain ⟨j, hjl, hgf, hup, hany, hr, hmd⟩ := hrel
                obtain ⟨x, hx⟩ : ∃ x, x = a2 + 1 + j := ⟨_, rfl⟩
                rw [← hx] at hr
                obtain ⟨⟨c0, c1, -⟩, -, f1, -⟩ := hr.cells
                rw [← HS.out.1] at c0
                have HR : Hid (Rr wr p l x b ∧ Md (fun b => b = p) w wr ∧ upto m L = L.take j ++ upto m (L.drop j) ∧ (L.take j).any badB = false ∧ x = a2 + 1 + j) := ⟨hr, hmd, hup, hany, hx⟩
                have hLl := HL.out.2
                have hxs : x ≤ 65536 := by omega
                by_cases hlt : x < s.size
                · have hjL : j < L.length := by omega
                  have hai : (x : Int) < (s.size : Int) := by omega
                  have hgd : decide ((x : Int) < (s.size : Int)) = true := decide_eq_true hai
                  have hgN : decide (x < s.size) = true := decide_eq_true hlt
                  have hxl : x < l.length := by omega
                  have hsx : s[x] = L[j] := by
                    rw [at_ba s l HS.out.1 x hlt hxl]
                    have e : ∀ (T : List UInt8) (h : T = l.drop (a2 + 1)) (h1 : j < T.length), l[x] = T[j] := by
                      rintro T rfl h1
                      rw [List.getElem_drop]
                      congr 1
                    exact e L HL.out.1 hjL
                  have HG : Hid (a2 + 1 + (j + 1) = x + 1 ∧ x + 1 ≤ l.length ∧ k < x) := ⟨by omega, by omega, by have := H7.out.2.2.2; omega⟩
                  clear hr hmd hup hany hx hLl
                  by_cases hm : L[j] = m
                  · have HN : Hid (quoL (l.drop a2) = some (l.drop (x + 1))) := by
                      show _ = _
                      rw [HQ2.out.2, quo_hit HQ2.out.1 (by rw [HR.out.2.2.1, upto_stop hjL hm, List.append_nil]) hjL HR.out.2.2.2.1, HL.out.1, List.drop_drop]
                      congr 2
                      have := HG.out.1
                      omega
                    have hne : ((s[x].toNat : Int) != (M : Int)) = false := by
                      rw [hsx, hm, HMv.out]
                      simp
                    clear hsx hm
                    go_wp2
                    go_quiet (fail)
                    go_wp2
                    generalize hw9 : World.setCell _ _ _ = w9
                    obtain ⟨y, hy⟩ : ∃ y, y = x + 1 := ⟨_, rfl⟩
                    have HW9 : Hid (Rr w9 p l y b ∧ Md (fun b => b = p) w w9 ∧ y = x + 1) := by
                      rw [← hw9]
                      refine ⟨?_, (HR.out.2.1.below (below_drewN (Below.refl _ _) _)).set (.inl rfl) _ _, hy⟩
                      rw [hy]
                      exact (HR.out.1.keep (Md.ofBelow (F := fun _ => False) (below_drewN (Below.refl _ _) _)) (fun h => h)).at (x + 1)
                    clear hw9 c0 c1 f1
                    obtain ⟨⟨c0, c1, -⟩, -⟩ := HW9.out.1.cells
                    rw [← HS.out.1] at c0
                    have hyl : y ≤ s.size := by omega
                    have hyi : (y : Int) ≤ (s.size : Int) := by omega
                    have hyN : decide (y ≤ s.size) = true := decide_eq_true hyl
                    have hyd : decide ((y : Int) ≤ (s.size : Int)) = true := decide_eq_true hyi
                    clear hy
                    go_quiet (fail)
                    go_wp2
                    go_ret
                    have hy := HW9.out.2.2
                    exact ⟨y, true, rfl, HW9.out.1.keep (Md.ofBelow (F := fun _ => False) (below_drewN (Below.refl _ _) _)) (fun h => h), HW9.out.2.1.below (below_drewN (Below.refl _ _) _), .inl ⟨rfl, by have := HG.out.2.2; omega, by have := HG.out.2.1; omega, by rw [← HQ.out.1]; exact HQ.out.2, by rw [H7.out.2.2.1, HN.out, hy]⟩⟩
                  · by_cases hc : badB L[j] = true
                    · have HN : Hid (quoL (l.drop a2) = none) := by
                        show _ = _
                        rw [HQ2.out.2]
                        exact quo_bad (by rw [HR.out.2.2.1, upto_step hjL hm]) hc
                      have hne : ((s[x].toNat : Int) != (M : Int)) = true := by
                        rw [hsx, HMv.out, bne_iff_ne]
                        intro e
                        exact hm (UInt8.toNat_inj.1 (by omega))
                      by_cases h60 : L[j] = 60
                      · have b60 : ((s[x].toNat : Int) == 60) = true := by rw [hsx, h60]; rfl
                        clear hsx hm hc h60
                        go_wp2
                        go_quiet (fail)
                        go_wp2
                        go_quiet (fail)
                        go_wp2
                        go_ret
                        exact ⟨x, false, rfl, HR.out.1.keep (Md.ofBelow (F := fun _ => False) (below_drewN (below_drewN (Below.refl _ _) _) _)) (fun h => h), HR.out.2.1.below (below_drewN (below_drewN (Below.refl _ _) _) _), .inr ⟨rfl, by have := HG.out.2.1; omega, .inr (H7.out.2.2.1.trans HN.out)⟩⟩
                      · have b60 : ((s[x].toNat : Int) == 60) = false := by
                          rw [hsx, beq_eq_false_iff_ne]
                          intro e
                          exact h60 (UInt8.toNat_inj.1 (show L[j].toNat = 60 by omega))
                        have b38 : ((s[x].toNat : Int) == 38) = true := by
                          have h38 : L[j] = 38 := by simpa [badB, h60] using hc
                          rw [hsx, h38]
                          rfl
                        clear hsx hm hc h60
                        go_wp2
                        go_quiet (fail)
                        go_wp2
                        go_quiet (fail)
                        go_wp2
                        go_ret
                        exact ⟨x, false, rfl, HR.out.1.keep (Md.ofBelow (F := fun _ => False) (below_drewN (below_drewN (Below.refl _ _) _) _)) (fun h => h), HR.out.2.1.below (below_drewN (below_drewN (Below.refl _ _) _) _), .inr ⟨rfl, by have := HG.out.2.1; omega, .inr (H7.out.2.2.1.trans HN.out)⟩⟩
                    · have HN : Hid (upto m L = L.take (j + 1) ++ upto m (L.drop (j + 1)) ∧ (L.take (j + 1)).any badB = false) := by
                        constructor
                        · rw [HR.out.2.2.1, upto_step hjL hm, List.take_succ_eq_append_getElem hjL, List.append_assoc]
                          rfl
                        · rw [List.take_succ_eq_append_getElem hjL, List.any_append, HR.out.2.2.2.1]
                          simpa using hc
                      have hne : ((s[x].toNat : Int) != (M : Int)) = true := by
                        rw [hsx, HMv.out, bne_iff_ne]
                        intro e
                        exact hm (UInt8.toNat_inj.1 (by omega))
                      have h60 : L[j] ≠ 60 := fun e => by simp [badB, e] at hc
                      have h38 : L[j] ≠ 38 := fun e => by simp [badB, e] at hc
                      have b60 : ((s[x].toNat : Int) == 60) = false := by
                        rw [hsx, beq_eq_false_iff_ne]
                        intro e
                        exact h60 (UInt8.toNat_inj.1 (show L[j].toNat = 60 by omega))
                      have b38 : ((s[x].toNat : Int) == 38) = false := by
                        rw [hsx, beq_eq_false_iff_ne]
                        intro e
                        exact h38 (UInt8.toNat_inj.1 (show L[j].toNat = 38 by omega))
                      obtain ⟨g', rfl⟩ : ∃ g', gk = g' + 1 := ⟨gk - 1, by omega⟩
                      clear hsx hm hc h60 h38
                      go_wp2
                      go_quiet (fail)
                      go_wp2
                      go_quiet (fail)
                      go_wp2
                      go_roundg g'
                      case measure => omega
                      case rel =>
                        refine ⟨j + 1, by omega, by omega, HN.out.1, HN.out.2, ?_, (HR.out.2.1.below (below_drewN (Below.refl _ _) _)).set (.inl rfl) _ _⟩
                        rw [HG.out.1]
                        exact (HR.out.1.keep (Md.ofBelow (F := fun _ => False) (below_drewN (Below.refl _ _) _)) (fun h => h)).at (x + 1)
                · have hai : ¬ (x : Int) < (s.size : Int) := by omega
                  have hgd : decide ((x : Int) < (s.size : Int)) = false := decide_eq_false hai
                  have hgN : decide (x < s.size) = false := decide_eq_false hlt
                  have hjL : j = L.length := by omega
                  have HN : Hid (quoL (l.drop a2) = none) := by
                    show _ = _
                    rw [HQ2.out.2]
                    apply quo_end
                    rw [HR.out.2.2.1, hjL]
                    simp [upto]
                  have HG : Hid (x + 1 = l.length + 1) := by show _ = _; omega
                  clear hr hmd hup hany hx hLl hjL
                  go_wp2
                  go_quiet (fail)
                  go_wp2
                  generalize hw9 : World.setCell _ _ _ = w9
                  obtain ⟨y, hy⟩ : ∃ y, y = x + 1 := ⟨_, rfl⟩
                  have HW9 : Hid (Rr w9 p l y b ∧ Md (fun b => b = p) w w9 ∧ y = x + 1) := by
                    rw [← hw9]
                    refine ⟨?_, (HR.out.2.1.below (below_drewN (Below.refl _ _) _)).set (.inl rfl) _ _, hy⟩
                    rw [hy]
                    exact (HR.out.1.keep (Md.ofBelow (F := fun _ => False) (below_drewN (Below.refl _ _) _)) (fun h => h)).at (x + 1)
                  clear hw9 c0 c1 f1
                  obtain ⟨⟨c0, c1, -⟩, -⟩ := HW9.out.1.cells
                  rw [← HS.out.1] at c0
                  have hyl : ¬ y ≤ s.size := by omega
                  have hyi : ¬ (y : Int) ≤ (s.size : Int) := by omega
                  have hyN : decide (y ≤ s.size) = false := decide_eq_false hyl
                  have hyd : decide ((y : Int) ≤ (s.size : Int)) = false := decide_eq_false hyi
                  clear hy
                  go_quiet (fail)
                  go_wp2
                  go_ret
                  have hy := HW9.out.2.2
                  exact ⟨y, false, rfl, HW9.out.1.keep (Md.ofBelow (F := fun _ => False) (below_drewN (Below.refl _ _) _)) (fun h => h), HW9.out.2.1.below (below_drewN (Below.refl _ _) _), .inr ⟨rfl, by have := HG.out; omega, .inr (H7.out.2.2.1.trans HN.out)⟩⟩
            · have g34 : ((s[a2].toNat : Int) != 34) = false := by rw [hmN]; rfl
              clear hmN
              have HMe : Hid (M = s[a2].toNat) := hM
              clear hM
              go_wp2_with fail
              go_quiet (fail)
              go_wp2
              go_quiet (fail)
              go_wp2
              rw [← HMe.out]
              clear g34 HMe
              generalize hw8 : World.setCell _ _ _ = w8
              have HW : Hid (Rr w8 p l (a2 + 1) b ∧ Md (fun b => b = p) w w8) := by
                rw [← hw8]
                refine ⟨?_, (H7.out.2.1.below (below_drewN (Below.refl _ _) _)).set (.inl rfl) _ _⟩
                exact (H7.out.1.keep (Md.ofBelow (F := fun _ => False) (below_drewN (Below.refl _ _) _)) (fun h => h)).at (a2 + 1)
              clear hw8 c0 c1 f1 hai hgd hgN HMM HMN hlt hal
              go_loopg [] L.length (fun gf wx => ∃ j : Nat, j ≤ L.length ∧ L.length ≤ j + gf ∧ upto m L = L.take j ++ upto m (L.drop j) ∧ (L.take j).any badB = false ∧ Rr wx p l (a2 + 1 + j) b ∧ Md (fun b => b = p) w wx)
              case atStart => exact ⟨0, by omega, by omega, by simp, by simp, HW.out.1, HW.out.2⟩
              case round =>
                obtain ⟨j, hjl, hgf, hup, hany, hr, hmd⟩ := hrel
                obtain ⟨x, hx⟩ : ∃ x, x = a2 + 1 + j := ⟨_, rfl⟩
                rw [← hx] at hr
                obtain ⟨⟨c0, c1, -⟩, -, f1, -⟩ := hr.cells
                rw [← HS.out.1] at c0
                have HR : Hid (Rr wr p l x b ∧ Md (fun b => b = p) w wr ∧ upto m L = L.take j ++ upto m (L.drop j) ∧ (L.take j).any badB = false ∧ x = a2 + 1 + j) := ⟨hr, hmd, hup, hany, hx⟩
                have hLl := HL.out.2
                have hxs : x ≤ 65536 := by omega
                by_cases hlt : x < s.size
                · have hjL : j < L.length := by omega
                  have hai : (x : Int) < (s.size : Int) := by omega
                  have hgd : decide ((x : Int) < (s.size : Int)) = true := decide_eq_true hai
                  have hgN : decide (x < s.size) = true := decide_eq_true hlt
                  have hxl : x < l.length := by omega
                  have hsx : s[x] = L[j] := by
                    rw [at_ba s l HS.out.1 x hlt hxl]
                    have e : ∀ (T : List UInt8) (h : T = l.drop (a2 + 1)) (h1 : j < T.length), l[x] = T[j] := by
                      rintro T rfl h1
                      rw [List.getElem_drop]
                      congr 1
                    exact e L HL.out.1 hjL
                  have HG : Hid (a2 + 1 + (j + 1) = x + 1 ∧ x + 1 ≤ l.length ∧ k < x) := ⟨by omega, by omega, by have := H7.out.2.2.2; omega⟩
                  clear hr hmd hup hany hx hLl
                  by_cases hm : L[j] = m
                  · have HN : Hid (quoL (l.drop a2) = some (l.drop (x + 1))) := by
                      show _ = _
                      rw [HQ2.out.2, quo_hit HQ2.out.1 (by rw [HR.out.2.2.1, upto_stop hjL hm, List.append_nil]) hjL HR.out.2.2.2.1, HL.out.1, List.drop_drop]
                      congr 2
                      have := HG.out.1
                      omega
                    have hne : ((s[x].toNat : Int) != (M : Int)) = false := by
                      rw [hsx, hm, HMv.out]
                      simp
                    clear hsx hm
                    go_wp2
                    go_quiet (fail)
                    go_wp2
                    generalize hw9 : World.setCell _ _ _ = w9
                    obtain ⟨y, hy⟩ : ∃ y, y = x + 1 := ⟨_, rfl⟩
                    have HW9 : Hid (Rr w9 p l y b ∧ Md (fun b => b = p) w w9 ∧ y = x + 1) := by
                      rw [← hw9]
                      refine ⟨?_, (HR.out.2.1.below (below_drewN (Below.refl _ _) _)).set (.inl rfl) _ _, hy⟩
                      rw [hy]
                      exact (HR.out.1.keep (Md.ofBelow (F := fun _ => False) (below_drewN (Below.refl _ _) _)) (fun h => h)).at (x + 1)
                    clear hw9 c0 c1 f1
                    obtain ⟨⟨c0, c1, -⟩, -⟩ := HW9.out.1.cells
                    rw [← HS.out.1] at c0
                    have hyl : y ≤ s.size := by omega
                    have hyi : (y : Int) ≤ (s.size : Int) := by omega
                    have hyN : decide (y ≤ s.size) = true := decide_eq_true hyl
                    have hyd : decide ((y : Int) ≤ (s.size : Int)) = true := decide_eq_true hyi
                    clear hy
                    go_quiet (fail)
                    go_wp2
                    go_ret
                    have hy := HW9.out.2.2
                    exact ⟨y, true, rfl, HW9.out.1.keep (Md.ofBelow (F := fun _ => False) (below_drewN (Below.refl _ _) _)) (fun h => h), HW9.out.2.1.below (below_drewN (Below.refl _ _) _), .inl ⟨rfl, by have := HG.out.2.2; omega, by have := HG.out.2.1; omega, by rw [← HQ.out.1]; exact HQ.out.2, by rw [H7.out.2.2.1, HN.out, hy]⟩⟩
                  · by_cases hc : badB L[j] = true
                    · have HN : Hid (quoL (l.drop a2) = none) := by
                        show _ = _
                        rw [HQ2.out.2]
                        exact quo_bad (by rw [HR.out.2.2.1, upto_step hjL hm]) hc
                      have hne : ((s[x].toNat : Int) != (M : Int)) = true := by
                        rw [hsx, HMv.out, bne_iff_ne]
                        intro e
                        exact hm (UInt8.toNat_inj.1 (by omega))
                      by_cases h60 : L[j] = 60
                      · have b60 : ((s[x].toNat : Int) == 60) = true := by rw [hsx, h60]; rfl
                        clear hsx hm hc h60
                        go_wp2
                        go_quiet (fail)
                        go_wp2
                        go_quiet (fail)
                        go_wp2
                        go_ret
                        exact ⟨x, false, rfl, HR.out.1.keep (Md.ofBelow (F := fun _ => False) (below_drewN (below_drewN (Below.refl _ _) _) _)) (fun h => h), HR.out.2.1.below (below_drewN (below_drewN (Below.refl _ _) _) _), .inr ⟨rfl, by have := HG.out.2.1; omega, .inr (H7.out.2.2.1.trans HN.out)⟩⟩
                      · have b60 : ((s[x].toNat : Int) == 60) = false := by
                          rw [hsx, beq_eq_false_iff_ne]
                          intro e
                          exact h60 (UInt8.toNat_inj.1 (show L[j].toNat = 60 by omega))
                        have b38 : ((s[x].toNat : Int) == 38) = true := by
                          have h38 : L[j] = 38 := by simpa [badB, h60] using hc
                          rw [hsx, h38]
                          rfl
                        clear hsx hm hc h60
                        go_wp2
                        go_quiet (fail)
                        go_wp2
                        go_quiet (fail)
                        go_wp2
                        go_ret
                        exact ⟨x, false, rfl, HR.out.1.keep (Md.ofBelow (F := fun _ => False) (below_drewN (below_drewN (Below.refl _ _) _) _)) (fun h => h), HR.out.2.1.below (below_drewN (below_drewN (Below.refl _ _) _) _), .inr ⟨rfl, by have := HG.out.2.1; omega, .inr (H7.out.2.2.1.trans HN.out)⟩⟩
                    · have HN : Hid (upto m L = L.take (j + 1) ++ upto m (L.drop (j + 1)) ∧ (L.take (j + 1)).any badB = false) := by
                        constructor
                        · rw [HR.out.2.2.1, upto_step hjL hm, List.take_succ_eq_append_getElem hjL, List.append_assoc]
                          rfl
                        · rw [List.take_succ_eq_append_getElem hjL, List.any_append, HR.out.2.2.2.1]
                          simpa using hc
                      have hne : ((s[x].toNat : Int) != (M : Int)) = true := by
                        rw [hsx, HMv.out, bne_iff_ne]
                        intro e
                        exact hm (UInt8.toNat_inj.1 (by omega))
                      have h60 : L[j] ≠ 60 := fun e => by simp [badB, e] at hc
                      have h38 : L[j] ≠ 38 := fun e => by simp [badB, e] at hc
                      have b60 : ((s[x].toNat : Int) == 60) = false := by
                        rw [hsx, beq_eq_false_iff_ne]
                        intro e
                        exact h60 (UInt8.toNat_inj.1 (show L[j].toNat = 60 by omega))
                      have b38 : ((s[x].toNat : Int) == 38) = false := by
                        rw [hsx, beq_eq_false_iff_ne]
                        intro e
                        exact h38 (UInt8.toNat_inj.1 (show L[j].toNat = 38 by omega))
                      obtain ⟨g', rfl⟩ : ∃ g', gk = g' + 1 := ⟨gk - 1, by omega⟩
                      clear hsx hm hc h60 h38
                      go_wp2
                      go_quiet (fail)
                      go_wp2
                      go_quiet (fail)
                      go_wp2
                      go_roundg g'
                      case measure => omega
                      case rel =>
                        refine ⟨j + 1, by omega, by omega, HN.out.1, HN.out.2, ?_, (HR.out.2.1.below (below_drewN (Below.refl _ _) _)).set (.inl rfl) _ _⟩
                        rw [HG.out.1]
                        exact (HR.out.1.keep (Md.ofBelow (F := fun _ => False) (below_drewN (Below.refl _ _) _)) (fun h => h)).at (x + 1)
                · have hai : ¬ (x : Int) < (s.size : Int) := by omega
                  have hgd : decide ((x : Int) < (s.size : Int)) = false := decide_eq_false hai
                  have hgN : decide (x < s.size) = false := decide_eq_false hlt
                  have hjL : j = L.length := by omega
                  have HN : Hid (quoL (l.drop a2) = none) := by
                    show _ = _
                    rw [HQ2.out.2]
                    apply quo_end
                    rw [HR.out.2.2.1, hjL]
                    simp [upto]
                  have HG : Hid (x + 1 = l.length + 1) := by show _ = _; omega
                  clear hr hmd hup hany hx hLl hjL
                  go_wp2
                  go_quiet (fail)
                  go_wp2
                  generalize hw9 : World.setCell _ _ _ = w9
                  obtain ⟨y, hy⟩ : ∃ y, y = x + 1 := ⟨_, rfl⟩
                  have HW9 : Hid (Rr w9 p l y b ∧ Md (fun b => b = p) w w9 ∧ y = x + 1) := by
                    rw [← hw9]
                    refine ⟨?_, (HR.out.2.1.below (below_drewN (Below.refl _ _) _)).set (.inl rfl) _ _, hy⟩
                    rw [hy]
                    exact (HR.out.1.keep (Md.ofBelow (F := fun _ => False) (below_drewN (Below.refl _ _) _)) (fun h => h)).at (x + 1)
                  clear hw9 c0 c1 f1
                  obtain ⟨⟨c0, c1, -⟩, -⟩ := HW9.out.1.cells
                  rw [← HS.out.1] at c0
                  have hyl : ¬ y ≤ s.size := by omega
                  have hyi : ¬ (y : Int) ≤ (s.size : Int) := by omega
                  have hyN : decide (y ≤ s.size) = false := decide_eq_false hyl
                  have hyd : decide ((y : Int) ≤ (s.size : Int)) = false := decide_eq_false hyi
                  clear hy
                  go_quiet (fail)
                  go_wp2
                  go_ret
                  have hy := HW9.out.2.2
                  exact ⟨y, false, rfl, HW9.out.1.keep (Md.ofBelow (F := fun _ => False) (below_drewN (Below.refl _ _) _)) (fun h => h), HW9.out.2.1.below (below_drewN (Below.refl _ _) _), .inr ⟨rfl, by have := HG.out; omega, .inr (H7.out.2.2.1.trans HN.out)⟩⟩
          · have h34 : ¬ s[a2].toNat = 34 := by rw [hsc]; intro e; exact hmk (.inl (UInt8.toNat_inj.1 e))
            have h39 : ¬ s[a2].toNat = 39 := by rw [hsc]; intro e; exact hmk (.inr (UInt8.toNat_inj.1 e))
            have HN : Hid (quoL (l.drop a2) = none) := by
              show _ = _
              rw [hd]
              simp only [quoL, hmk, if_false]
            have g34 : ((s[a2].toNat : Int) != 34) = true := by rw [bne_iff_ne]; omega
            have g39 : ((s[a2].toNat : Int) != 39) = true := by rw [bne_iff_ne]; omega
            clear hmk hsc hd
            go_wp2_with fail
            go_quiet (fail)
            go_wp2
            go_ret
            exact ⟨a2, false, rfl, H7.out.1.keep (Md.ofBelow (F := fun _ => False) (below_drewN (Below.refl _ _) _)) (fun h => h), H7.out.2.1.below (below_drewN (Below.refl _ _) _), .inr ⟨rfl, by have := HK.out.1; omega, .inr (H7.out.2.2.1.trans HN.out)⟩⟩
        · have hai : (s.size : Int) ≤ (a2 : Int) := by omega
          have hgd : decide ((s.size : Int) ≤ (a2 : Int)) = true := decide_eq_true hai
          have HN : Hid (quoL (l.drop a2) = none) := by
            show _ = _
            rw [List.drop_eq_nil_of_le (by omega)]
            rfl
          go_wp2_with fail
          go_quiet (fail)
          go_wp2
          go_ret
          exact ⟨a2, false, rfl, H7.out.1.keep (Md.ofBelow (F := fun _ => False) (below_drewN (Below.refl _ _) _)) (fun h => h), H7.out.2.1.below (below_drewN (Below.refl _ _) _), .inr ⟨rfl, by have := HK.out.1; omega, .inr (H7.out.2.2.1.trans HN.out)⟩⟩
    | true =>
      rw [hc] at hr
      have hk2 : k1 + 1 ≤ l.length := by
        obtain ⟨r, hrr⟩ := (hasPrefix_iff _ _).1 hc
        have := congrArg List.length hrr
        simp only [List.length_drop, List.length_append, List.length_cons, List.length_nil] at this
        omega
      have he : eat [58] (l.drop k1) = some (l.drop (k1 + 1)) := by
        unfold eat
        rw [hc, if_pos rfl, List.drop_drop]
        rfl
      have H2 : Hid (Rr w2 p l (k1 + 1) b ∧ Md (fun b => b = p) w w2 ∧ eat [58] (l.drop k1) = some (l.drop (k1 + 1))) := ⟨hr, H1.out.2.1.then hm (fun _ _ h => h), he⟩
      have K3 := rname_ref p (k1 + 1) l b w2 H2.out.1 hk2 hl
      clear hr hm hc he
      go_wp2_with fail
      refine K3.mono ?_
      rintro e w3 ⟨rfl, hr, hm⟩
      clear K3
      by_cases hn2 : nmL (l.drop (k1 + 1)) = []
      · rw [hn2] at hr ⊢
        have HZ : Hid (Rr w3 p l (k1 + 1) b ∧ Md (fun b => b = p) w w3 ∧ colL (l.drop k1) = none) := ⟨hr, H2.out.2.1.then hm (fun _ _ h => h), by unfold colL; rw [H2.out.2.2]; simp [hn2]⟩
        clear hr hm hn2
        go_wp2_with fail
        go_ret
        refine ⟨k1 + 1, false, rfl, HZ.out.1, HZ.out.2.1, .inr ⟨rfl, by omega, .inr ?_⟩⟩
        unfold atrL
        rw [← HQ.out.1, List.drop_drop, ← H1.out.2.2, HZ.out.2.2]
        rfl
      · obtain ⟨q2, hq2⟩ : ∃ q2, q2 = nmL (l.drop (k1 + 1)) := ⟨_, rfl⟩
        rw [← hq2] at hr hn2 ⊢
        have hql2 : k1 + 1 + q2.length ≤ l.length := by
          have := nm_le (l.drop (k1 + 1))
          rw [← hq2] at this
          simp only [List.length_drop] at this
          omega
        have hqe2 : q2.isEmpty = false := by simpa using hn2
        obtain ⟨a, ha⟩ : ∃ a, a = k1 + 1 + q2.length := ⟨_, rfl⟩
        rw [← ha] at hr
        have H4 : Hid (Rr w3 p l a b ∧ Md (fun b => b = p) w w3 ∧ colL (l.drop k1) = some (l.drop a) ∧ k < a) := by
          refine ⟨hr, H2.out.2.1.then hm (fun _ _ h => h), ?_, by have := H1.out.2.2; omega⟩
          unfold colL
          rw [H2.out.2.2]
          simp only [← hq2, hn2, if_false]
          rw [List.drop_drop, ha]
        replace ha : a ≤ l.length := by omega
        clear hr hm hn2 hq2 hql2 hk2
        go_wp2_with fail
        obtain ⟨w4, hw4⟩ : ∃ w4, w4 = w3 := ⟨_, rfl⟩
        rw [← hw4] at H4 ⊢
        clear hw4 H2
        have K4 := skip_ref p a l b w4 H4.out.1 ha hl
        refine K4.mono ?_
        rintro e w5 ⟨a1, rfl, ha1, ha2, hd, hr, hm⟩
        have H5 : Hid (Rr w5 p l a1 b ∧ Md (fun b => b = p) w w5 ∧ l.drop a1 = skp (l.drop a)) := ⟨hr, H4.out.2.1.then hm (fun _ _ h => h), hd⟩
        have K5 := eat_ref p a1 l [61] b w5 hr ha2 hl (by decide)
        clear hr hm hd K4
        go_wp2_with fail
        refine K5.mono ?_
        rintro e w6 ⟨rfl, hr, hm⟩
        clear K5
        cases he : Lib.hasPrefix (l.drop a1) [61] with
        | false =>
          rw [he] at hr
          have HZ : Hid (Rr w6 p l a1 b ∧ Md (fun b => b = p) w w6 ∧ atrL (l.drop k) = none) := ⟨hr, H5.out.2.1.then hm (fun _ _ h => h), by
            unfold atrL
            rw [← HQ.out.1, List.drop_drop, ← H1.out.2.2, H4.out.2.2.1, Option.bind_some, ← H5.out.2.2]
            unfold eat
            rw [he]
            rfl⟩
          clear hr hm he
          go_wp2_with fail
          go_ret
          exact ⟨a1, false, rfl, HZ.out.1, HZ.out.2.1, .inr ⟨rfl, by omega, .inr HZ.out.2.2⟩⟩
        | true =>
          rw [he] at hr
          have hk2 : a1 + 1 ≤ l.length := by
            obtain ⟨r, hrr⟩ := (hasPrefix_iff _ _).1 he
            have := congrArg List.length hrr
            simp only [List.length_drop, List.length_append, List.length_cons, List.length_nil] at this
            omega
          have HE : Hid (atrL (l.drop k) = quoL (skp (l.drop (a1 + 1)))) := by
            show _ = _
            unfold atrL
            rw [← HQ.out.1, List.drop_drop, ← H1.out.2.2, H4.out.2.2.1, Option.bind_some, ← H5.out.2.2]
            unfold eat
            rw [he, if_pos rfl, Option.bind_some, List.drop_drop]
            rfl
          have H6 : Hid (Rr w6 p l (a1 + 1) b ∧ Md (fun b => b = p) w w6) := ⟨hr, H5.out.2.1.then hm (fun _ _ h => h)⟩
          have K6 := skip_ref p (a1 + 1) l b w6 H6.out.1 hk2 hl
          clear hr hm he
          go_wp2_with fail
          refine K6.mono ?_
          rintro e w7 ⟨a2, rfl, ha3, ha4, hd, hr, hm⟩
          have H7 : Hid (Rr w7 p l a2 b ∧ Md (fun b => b = p) w w7 ∧ atrL (l.drop k) = quoL (l.drop a2) ∧ k < a2) := ⟨hr, H6.out.2.then hm (fun _ _ h => h), by rw [HE.out, hd], by have := H4.out.2.2.2; omega⟩
          clear hr hm hd K6 HE
          obtain ⟨⟨c0, c1, -⟩, -, f1, -⟩ := H7.out.1.cells
          obtain ⟨s, hs⟩ : ∃ s : ByteArray, s = ⟨l.toArray⟩ := ⟨_, rfl⟩
          have HS : Hid (s = ⟨l.toArray⟩ ∧ s.size = l.length) := ⟨hs, by rw [hs, mk_size]⟩
          have hsz : l.length = s.size := HS.out.2.symm
          rw [← hs] at c0
          have hss : s.size ≤ 65536 := by omega
          have HK : Hid (a2 ≤ l.length ∧ l.length ≤ 65536) := ⟨ha4, hl⟩
          clear hs hqe hq0 hql ha1 ha2 ha3 ha4 ha hk hk2
          by_cases hlt : a2 < s.size
          · have hai : ¬ (s.size : Int) ≤ (a2 : Int) := by omega
            have hgd : decide ((s.size : Int) ≤ (a2 : Int)) = false := decide_eq_false hai
            have hgN : decide (s.size ≤ a2) = false := decide_eq_false (by omega)
            have hal : a2 < l.length := by omega
            have hsc := at_ba s l HS.out.1 a2 hlt hal
            have hd : l.drop a2 = l[a2] :: l.drop (a2 + 1) := (List.getElem_cons_drop ..).symm
            by_cases hmk : l[a2] = 34 ∨ l[a2] = 39
            · have hmN : s[a2].toNat = 34 ∨ s[a2].toNat = 39 := by
                rw [hsc]
                rcases hmk with h | h
                · exact .inl (by rw [h]; rfl)
                · exact .inr (by rw [h]; rfl)
              have HMM : Hid (s[a2] = l[a2] ∧ (l[a2] = 34 ∨ l[a2] = 39) ∧ l.drop a2 = l[a2] :: l.drop (a2 + 1)) := ⟨hsc, hmk, hd⟩
              clear hsc hmk hd
              generalize hmm : l[a2] = m at HMM
              obtain ⟨L, hL⟩ : ∃ L, L = l.drop (a2 + 1) := ⟨_, rfl⟩
              have HL : Hid (L = l.drop (a2 + 1) ∧ L.length + a2 + 1 = l.length) := ⟨hL, by rw [hL, List.length_drop]; omega⟩
              clear hmm hL
              have HMN : Hid (s[a2].toNat = 34 ∨ s[a2].toNat = 39) := hmN
              clear hmN
              obtain ⟨M, hM⟩ : ∃ M, M = s[a2].toNat := ⟨_, rfl⟩
              have HMv : Hid (M = m.toNat) := by show _ = _; rw [hM, HMM.out.1]
              have HQ2 : Hid ((m = 34 ∨ m = 39) ∧ l.drop a2 = m :: L) := ⟨HMM.out.2.1, by rw [HMM.out.2.2, HL.out.1]⟩
              rcases HMN.out with hmN | hmN
              rotate_left
              · have g34 : ((s[a2].toNat : Int) != 34) = true := by rw [hmN]; rfl
                have g39 : ((s[a2].toNat : Int) != 39) = false := by rw [hmN]; rfl
                clear hmN
                have HMe : Hid (M = s[a2].toNat) := hM
                clear hM
                go_wp2_with fail
                go_quiet (fail)
                go_wp2
                go_quiet (fail)
                go_wp2
                rw [← HMe.out]
                clear g34 g39 HMe
                generalize hw8 : World.setCell _ _ _ = w8
                have HW : Hid (Rr w8 p l (a2 + 1) b ∧ Md (fun b => b = p) w w8) := by
                  rw [← hw8]
                  refine ⟨?_, (H7.out.2.1.below (below_drewN (Below.refl _ _) _)).set (.inl rfl) _ _⟩
                  exact (H7.out.1.keep (Md.ofBelow (F := fun _ => False) (below_drewN (Below.refl _ _) _)) (fun h => h)).at (a2 + 1)
                clear hw8 c0 c1 f1 hai hgd hgN HMM HMN hlt hal
                go_loopg [] L.length (fun gf wx => ∃ j : Nat, j ≤ L.length ∧ L.length ≤ j + gf ∧ upto m L = L.take j ++ upto m (L.drop j) ∧ (L.take j).any badB = false ∧ Rr wx p l (a2 + 1 + j) b ∧ Md (fun b => b = p) w wx)
                case atStart => exact ⟨0, by omega, by omega, by simp, by simp, HW.out.1, HW.out.2⟩
                case round =>
                  obtain ⟨j, hjl, hgf, hup, hany, hr, hmd⟩ := hrel
                  obtain ⟨x, hx⟩ : ∃ x, x = a2 + 1 + j := ⟨_, rfl⟩
                  rw [← hx] at hr
                  obtain ⟨⟨c0, c1, -⟩, -, f1, -⟩ := hr.cells
                  rw [← HS.out.1] at c0
                  have HR : Hid (Rr wr p l x b ∧ Md (fun b => b = p) w wr ∧ upto m L = L.take j ++ upto m (L.drop j) ∧ (L.take j).any badB = false ∧ x = a2 + 1 + j) := ⟨hr, hmd, hup, hany, hx⟩
                  have hLl := HL.out.2
                  have hxs : x ≤ 65536 := by omega
                  by_cases hlt : x < s.size
                  · have hjL : j < L.length := by omega
                    have hai : (x : Int) < (s.size : Int) := by omega
                    have hgd : decide ((x : Int) < (s.size : Int)) = true := decide_eq_true hai
                    have hgN : decide (x < s.size) = true := decide_eq_true hlt
                    have hxl : x < l.length := by omega
                    have hsx : s[x] = L[j] := by
                      rw [at_ba s l HS.out.1 x hlt hxl]
                      have e : ∀ (T : List UInt8) (h : T = l.drop (a2 + 1)) (h1 : j < T.length), l[x] = T[j] := by
                        rintro T rfl h1
                        rw [List.getElem_drop]
                        congr 1
                      exact e L HL.out.1 hjL
                    have HG : Hid (a2 + 1 + (j + 1) = x + 1 ∧ x + 1 ≤ l.length ∧ k < x) := ⟨by omega, by omega, by have := H7.out.2.2.2; omega⟩
                    clear hr hmd hup hany hx hLl
                    by_cases hm : L[j] = m
                    · have HN : Hid (quoL (l.drop a2) = some (l.drop (x + 1))) := by
                        show _ = _
                        rw [HQ2.out.2, quo_hit HQ2.out.1 (by rw [HR.out.2.2.1, upto_stop hjL hm, List.append_nil]) hjL HR.out.2.2.2.1, HL.out.1, List.drop_drop]
                        congr 2
                        have := HG.out.1
                        omega
                      have hne : ((s[x].toNat : Int) != (M : Int)) = false := by
                        rw [hsx, hm, HMv.out]
                        simp
                      clear hsx hm
                      go_wp2
                      go_quiet (fail)
                      go_wp2
                      generalize hw9 : World.setCell _ _ _ = w9
                      obtain ⟨y, hy⟩ : ∃ y, y = x + 1 := ⟨_, rfl⟩
                      have HW9 : Hid (Rr w9 p l y b ∧ Md (fun b => b = p) w w9 ∧ y = x + 1) := by
                        rw [← hw9]
                        refine ⟨?_, (HR.out.2.1.below (below_drewN (Below.refl _ _) _)).set (.inl rfl) _ _, hy⟩
                        rw [hy]
                        exact (HR.out.1.keep (Md.ofBelow (F := fun _ => False) (below_drewN (Below.refl _ _) _)) (fun h => h)).at (x + 1)
                      clear hw9 c0 c1 f1
                      obtain ⟨⟨c0, c1, -⟩, -⟩ := HW9.out.1.cells
                      rw [← HS.out.1] at c0
                      have hyl : y ≤ s.size := by omega
                      have hyi : (y : Int) ≤ (s.size : Int) := by omega
                      have hyN : decide (y ≤ s.size) = true := decide_eq_true hyl
                      have hyd : decide ((y : Int) ≤ (s.size : Int)) = true := decide_eq_true hyi
                      clear hy
                      go_quiet (fail)
                      go_wp2
                      go_ret
                      have hy := HW9.out.2.2
                      exact ⟨y, true, rfl, HW9.out.1.keep (Md.ofBelow (F := fun _ => False) (below_drewN (Below.refl _ _) _)) (fun h => h), HW9.out.2.1.below (below_drewN (Below.refl _ _) _), .inl ⟨rfl, by have := HG.out.2.2; omega, by have := HG.out.2.1; omega, by rw [← HQ.out.1]; exact HQ.out.2, by rw [H7.out.2.2.1, HN.out, hy]⟩⟩
                    · by_cases hc : badB L[j] = true
                      · have HN : Hid (quoL (l.drop a2) = none) := by
                          show _ = _
                          rw [HQ2.out.2]
                          exact quo_bad (by rw [HR.out.2.2.1, upto_step hjL hm]) hc
                        have hne : ((s[x].toNat : Int) != (M : Int)) = true := by
                          rw [hsx, HMv.out, bne_iff_ne]
                          intro e
                          exact hm (UInt8.toNat_inj.1 (by omega))
                        by_cases h60 : L[j] = 60
                        · have b60 : ((s[x].toNat : Int) == 60) = true := by rw [hsx, h60]; rfl
                          clear hsx hm hc h60
                          go_wp2
                          go_quiet (fail)
                          go_wp2
                          go_quiet (fail)
                          go_wp2
                          go_ret
                          exact ⟨x, false, rfl, HR.out.1.keep (Md.ofBelow (F := fun _ => False) (below_drewN (below_drewN (Below.refl _ _) _) _)) (fun h => h), HR.out.2.1.below (below_drewN (below_drewN (Below.refl _ _) _) _), .inr ⟨rfl, by have := HG.out.2.1; omega, .inr (H7.out.2.2.1.trans HN.out)⟩⟩
                        · have b60 : ((s[x].toNat : Int) == 60) = false := by
                            rw [hsx, beq_eq_false_iff_ne]
                            intro e
                            exact h60 (UInt8.toNat_inj.1 (show L[j].toNat = 60 by omega))
                          have b38 : ((s[x].toNat : Int) == 38) = true := by
                            have h38 : L[j] = 38 := by simpa [badB, h60] using hc
                            rw [hsx, h38]
                            rfl
                          clear hsx hm hc h60
                          go_wp2
                          go_quiet (fail)
                          go_wp2
                          go_quiet (fail)
                          go_wp2
                          go_ret
                          exact ⟨x, false, rfl, HR.out.1.keep (Md.ofBelow (F := fun _ => False) (below_drewN (below_drewN (Below.refl _ _) _) _)) (fun h => h), HR.out.2.1.below (below_drewN (below_drewN (Below.refl _ _) _) _), .inr ⟨rfl, by have := HG.out.2.1; omega, .inr (H7.out.2.2.1.trans HN.out)⟩⟩
                      · have HN : Hid (upto m L = L.take (j + 1) ++ upto m (L.drop (j + 1)) ∧ (L.take (j + 1)).any badB = false) := by
                          constructor
                          · rw [HR.out.2.2.1, upto_step hjL hm, List.take_succ_eq_append_getElem hjL, List.append_assoc]
                            rfl
                          · rw [List.take_succ_eq_append_getElem hjL, List.any_append, HR.out.2.2.2.1]
                            simpa using hc
                        have hne : ((s[x].toNat : Int) != (M : Int)) = true := by
                          rw [hsx, HMv.out, bne_iff_ne]
                          intro e
                          exact hm (UInt8.toNat_inj.1 (by omega))
                        have h60 : L[j] ≠ 60 := fun e => by simp [badB, e] at hc
                        have h38 : L[j] ≠ 38 := fun e => by simp [badB, e] at hc
                        have b60 : ((s[x].toNat : Int) == 60) = false := by
                          rw [hsx, beq_eq_false_iff_ne]
                          intro e
                          exact h60 (UInt8.toNat_inj.1 (show L[j].toNat = 60 by omega))
                        have b38 : ((s[x].toNat : Int) == 38) = false := by
                          rw [hsx, beq_eq_false_iff_ne]
                          intro e
                          exact h38 (UInt8.toNat_inj.1 (show L[j].toNat = 38 by omega))
                        obtain ⟨g', rfl⟩ : ∃ g', gk = g' + 1 := ⟨gk - 1, by omega⟩
                        clear hsx hm hc h60 h38
                        go_wp2
                        go_quiet (fail)
                        go_wp2
                        go_quiet (fail)
                        go_wp2
                        go_roundg g'
                        case measure => omega
                        case rel =>
                          refine ⟨j + 1, by omega, by omega, HN.out.1, HN.out.2, ?_, (HR.out.2.1.below (below_drewN (Below.refl _ _) _)).set (.inl rfl) _ _⟩
                          rw [HG.out.1]
                          exact (HR.out.1.keep (Md.ofBelow (F := fun _ => False) (below_drewN (Below.refl _ _) _)) (fun h => h)).at (x + 1)
                  · have hai : ¬ (x : Int) < (s.size : Int) := by omega
                    have hgd : decide ((x : Int) < (s.size : Int)) = false := decide_eq_false hai
                    have hgN : decide (x < s.size) = false := decide_eq_false hlt
                    have hjL : j = L.length := by omega
                    have HN : Hid (quoL (l.drop a2) = none) := by
                      show _ = _
                      rw [HQ2.out.2]
                      apply quo_end
                      rw [HR.out.2.2.1, hjL]
                      simp [upto]
                    have HG : Hid (x + 1 = l.length + 1) := by show _ = _; omega
                    clear hr hmd hup hany hx hLl hjL
                    go_wp2
                    go_quiet (fail)
                    go_wp2
                    generalize hw9 : World.setCell _ _ _ = w9
                    obtain ⟨y, hy⟩ : ∃ y, y = x + 1 := ⟨_, rfl⟩
                    have HW9 : Hid (Rr w9 p l y b ∧ Md (fun b => b = p) w w9 ∧ y = x + 1) := by
                      rw [← hw9]
                      refine ⟨?_, (HR.out.2.1.below (below_drewN (Below.refl _ _) _)).set (.inl rfl) _ _, hy⟩
                      rw [hy]
                      exact (HR.out.1.keep (Md.ofBelow (F := fun _ => False) (below_drewN (Below.refl _ _) _)) (fun h => h)).at (x + 1)
                    clear hw9 c0 c1 f1
                    obtain ⟨⟨c0, c1, -⟩, -⟩ := HW9.out.1.cells
                    rw [← HS.out.1] at c0
                    have hyl : ¬ y ≤ s.size := by omega
                    have hyi : ¬ (y : Int) ≤ (s.size : Int) := by omega
                    have hyN : decide (y ≤ s.size) = false := decide_eq_false hyl
                    have hyd : decide ((y : Int) ≤ (s.size : Int)) = false := decide_eq_false hyi
                    clear hy
                    go_quiet (fail)
                    go_wp2
                    go_ret
                    have hy := HW9.out.2.2
                    exact ⟨y, false, rfl, HW9.out.1.keep (Md.ofBelow (F := fun _ => False) (below_drewN (Below.refl _ _) _)) (fun h => h), HW9.out.2.1.below (below_drewN (Below.refl _ _) _), .inr ⟨rfl, by have := HG.out; omega, .inr (H7.out.2.2.1.trans HN.out)⟩⟩
              · have g34 : ((s[a2].toNat : Int) != 34) = false := by rw [hmN]; rfl
                clear hmN
                have HMe : Hid (M = s[a2].toNat) := hM
                clear hM
                go_wp2_with fail
                go_quiet (fail)
                go_wp2
                go_quiet (fail)
                go_wp2
                rw [← HMe.out]
                clear g34 HMe
                generalize hw8 : World.setCell _ _ _ = w8
                have HW : Hid (Rr w8 p l (a2 + 1) b ∧ Md (fun b => b = p) w w8) := by
                  rw [← hw8]
                  refine ⟨?_, (H7.out.2.1.below (below_drewN (Below.refl _ _) _)).set (.inl rfl) _ _⟩
                  exact (H7.out.1.keep (Md.ofBelow (F := fun _ => False) (below_drewN (Below.refl _ _) _)) (fun h => h)).at (a2 + 1)
                clear hw8 c0 c1 f1 hai hgd hgN HMM HMN hlt hal
                go_loopg [] L.length (fun gf wx => ∃ j : Nat, j ≤ L.length ∧ L.length ≤ j + gf ∧ upto m L = L.take j ++ upto m (L.drop j) ∧ (L.take j).any badB = false ∧ Rr wx p l (a2 + 1 + j) b ∧ Md (fun b => b = p) w wx)
                case atStart => exact ⟨0, by omega, by omega, by simp, by simp, HW.out.1, HW.out.2⟩
                case round =>
                  obtain ⟨j, hjl, hgf, hup, hany, hr, hmd⟩ := hrel
                  obtain ⟨x, hx⟩ : ∃ x, x = a2 + 1 + j := ⟨_, rfl⟩
                  rw [← hx] at hr
                  obtain ⟨⟨c0, c1, -⟩, -, f1, -⟩ := hr.cells
                  rw [← HS.out.1] at c0
                  have HR : Hid (Rr wr p l x b ∧ Md (fun b => b = p) w wr ∧ upto m L = L.take j ++ upto m (L.drop j) ∧ (L.take j).any badB = false ∧ x = a2 + 1 + j) := ⟨hr, hmd, hup, hany, hx⟩
                  have hLl := HL.out.2
                  have hxs : x ≤ 65536 := by omega
                  by_cases hlt : x < s.size
                  · have hjL : j < L.length := by omega
                    have hai : (x : Int) < (s.size : Int) := by omega
                    have hgd : decide ((x : Int) < (s.size : Int)) = true := decide_eq_true hai
                    have hgN : decide (x < s.size) = true := decide_eq_true hlt
                    have hxl : x < l.length := by omega
                    have hsx : s[x] = L[j] := by
                      rw [at_ba s l HS.out.1 x hlt hxl]
                      have e : ∀ (T : List UInt8) (h : T = l.drop (a2 + 1)) (h1 : j < T.length), l[x] = T[j] := by
                        rintro T rfl h1
                        rw [List.getElem_drop]
                        congr 1
                      exact e L HL.out.1 hjL
                    have HG : Hid (a2 + 1 + (j + 1) = x + 1 ∧ x + 1 ≤ l.length ∧ k < x) := ⟨by omega, by omega, by have := H7.out.2.2.2; omega⟩
                    clear hr hmd hup hany hx hLl
                    by_cases hm : L[j] = m
                    · have HN : Hid (quoL (l.drop a2) = some (l.drop (x + 1))) := by
                        show _ = _
                        rw [HQ2.out.2, quo_hit HQ2.out.1 (by rw [HR.out.2.2.1, upto_stop hjL hm, List.append_nil]) hjL HR.out.2.2.2.1, HL.out.1, List.drop_drop]
                        congr 2
                        have := HG.out.1
                        omega
                      have hne : ((s[x].toNat : Int) != (M : Int)) = false := by
                        rw [hsx, hm, HMv.out]
                        simp
                      clear hsx hm
                      go_wp2
                      go_quiet (fail)
                      go_wp2
                      generalize hw9 : World.setCell _ _ _ = w9
                      obtain ⟨y, hy⟩ : ∃ y, y = x + 1 := ⟨_, rfl⟩
                      have HW9 : Hid (Rr w9 p l y b ∧ Md (fun b => b = p) w w9 ∧ y = x + 1) := by
                        rw [← hw9]
                        refine ⟨?_, (HR.out.2.1.below (below_drewN (Below.refl _ _) _)).set (.inl rfl) _ _, hy⟩
                        rw [hy]
                        exact (HR.out.1.keep (Md.ofBelow (F := fun _ => False) (below_drewN (Below.refl _ _) _)) (fun h => h)).at (x + 1)
                      clear hw9 c0 c1 f1
                      obtain ⟨⟨c0, c1, -⟩, -⟩ := HW9.out.1.cells
                      rw [← HS.out.1] at c0
                      have hyl : y ≤ s.size := by omega
                      have hyi : (y : Int) ≤ (s.size : Int) := by omega
                      have hyN : decide (y ≤ s.size) = true := decide_eq_true hyl
                      have hyd : decide ((y : Int) ≤ (s.size : Int)) = true := decide_eq_true hyi
                      clear hy
                      go_quiet (fail)
                      go_wp2
                      go_ret
                      have hy := HW9.out.2.2
                      exact ⟨y, true, rfl, HW9.out.1.keep (Md.ofBelow (F := fun _ => False) (below_drewN (Below.refl _ _) _)) (fun h => h), HW9.out.2.1.below (below_drewN (Below.refl _ _) _), .inl ⟨rfl, by have := HG.out.2.2; omega, by have := HG.out.2.1; omega, by rw [← HQ.out.1]; exact HQ.out.2, by rw [H7.out.2.2.1, HN.out, hy]⟩⟩
                    · by_cases hc : badB L[j] = true
                      · have HN : Hid (quoL (l.drop a2) = none) := by
                          show _ = _
                          rw [HQ2.out.2]
                          exact quo_bad (by rw [HR.out.2.2.1, upto_step hjL hm]) hc
                        have hne : ((s[x].toNat : Int) != (M : Int)) = true := by
                          rw [hsx, HMv.out, bne_iff_ne]
                          intro e
                          exact hm (UInt8.toNat_inj.1 (by omega))
                        by_cases h60 : L[j] = 60
                        · have b60 : ((s[x].toNat : Int) == 60) = true := by rw [hsx, h60]; rfl
                          clear hsx hm hc h60
                          go_wp2
                          go_quiet (fail)
                          go_wp2
                          go_quiet (fail)
                          go_wp2
                          go_ret
                          exact ⟨x, false, rfl, HR.out.1.keep (Md.ofBelow (F := fun _ => False) (below_drewN (below_drewN (Below.refl _ _) _) _)) (fun h => h), HR.out.2.1.below (below_drewN (below_drewN (Below.refl _ _) _) _), .inr ⟨rfl, by have := HG.out.2.1; omega, .inr (H7.out.2.2.1.trans HN.out)⟩⟩
                        · have b60 : ((s[x].toNat : Int) == 60) = false := by
                            rw [hsx, beq_eq_false_iff_ne]
                            intro e
                            exact h60 (UInt8.toNat_inj.1 (show L[j].toNat = 60 by omega))
                          have b38 : ((s[x].toNat : Int) == 38) = true := by
                            have h38 : L[j] = 38 := by simpa [badB, h60] using hc
                            rw [hsx, h38]
                            rfl
                          clear hsx hm hc h60
                          go_wp2
                          go_quiet (fail)
                          go_wp2
                          go_quiet (fail)
                          go_wp2
                          go_ret
                          exact ⟨x, false, rfl, HR.out.1.keep (Md.ofBelow (F := fun _ => False) (below_drewN (below_drewN (Below.refl _ _) _) _)) (fun h => h), HR.out.2.1.below (below_drewN (below_drewN (Below.refl _ _) _) _), .inr ⟨rfl, by have := HG.out.2.1; omega, .inr (H7.out.2.2.1.trans HN.out)⟩⟩
                      · have HN : Hid (upto m L = L.take (j + 1) ++ upto m (L.drop (j + 1)) ∧ (L.take (j + 1)).any badB = false) := by
                          constructor
                          · rw [HR.out.2.2.1, upto_step hjL hm, List.take_succ_eq_append_getElem hjL, List.append_assoc]
                            rfl
                          · rw [List.take_succ_eq_append_getElem hjL, List.any_append, HR.out.2.2.2.1]
                            simpa using hc
                        have hne : ((s[x].toNat : Int) != (M : Int)) = true := by
                          rw [hsx, HMv.out, bne_iff_ne]
                          intro e
                          exact hm (UInt8.toNat_inj.1 (by omega))
                        have h60 : L[j] ≠ 60 := fun e => by simp [badB, e] at hc
                        have h38 : L[j] ≠ 38 := fun e => by simp [badB, e] at hc
                        have b60 : ((s[x].toNat : Int) == 60) = false := by
                          rw [hsx, beq_eq_false_iff_ne]
                          intro e
                          exact h60 (UInt8.toNat_inj.1 (show L[j].toNat = 60 by omega))
                        have b38 : ((s[x].toNat : Int) == 38) = false := by
                          rw [hsx, beq_eq_false_iff_ne]
                          intro e
                          exact h38 (UInt8.toNat_inj.1 (show L[j].toNat = 38 by omega))
                        obtain ⟨g', rfl⟩ : ∃ g', gk = g' + 1 := ⟨gk - 1, by omega⟩
                        clear hsx hm hc h60 h38
                        go_wp2
                        go_quiet (fail)
                        go_wp2
                        go_quiet (fail)
                        go_wp2
                        go_roundg g'
                        case measure => omega
                        case rel =>
                          refine ⟨j + 1, by omega, by omega, HN.out.1, HN.out.2, ?_, (HR.out.2.1.below (below_drewN (Below.refl _ _) _)).set (.inl rfl) _ _⟩
                          rw [HG.out.1]
                          exact (HR.out.1.keep (Md.ofBelow (F := fun _ => False) (below_drewN (Below.refl _ _) _)) (fun h => h)).at (x + 1)
                  · have hai : ¬ (x : Int) < (s.size : Int) := by omega
                    have hgd : decide ((x : Int) < (s.size : Int)) = false := decide_eq_false hai
                    have hgN : decide (x < s.size) = false := decide_eq_false hlt
                    have hjL : j = L.length := by omega
                    have HN : Hid (quoL (l.drop a2) = none) := by
                      show _ = _
                      rw [HQ2.out.2]
                      apply quo_end
                      rw [HR.out.2.2.1, hjL]
                      simp [upto]
                    have HG : Hid (x + 1 = l.length + 1) := by show _ = _; omega
                    clear hr hmd hup hany hx hLl hjL
                    go_wp2
                    go_quiet (fail)
                    go_wp2
                    generalize hw9 : World.setCell _ _ _ = w9
                    obtain ⟨y, hy⟩ : ∃ y, y = x + 1 := ⟨_, rfl⟩
                    have HW9 : Hid (Rr w9 p l y b ∧ Md (fun b => b = p) w w9 ∧ y = x + 1) := by
                      rw [← hw9]
                      refine ⟨?_, (HR.out.2.1.below (below_drewN (Below.refl _ _) _)).set (.inl rfl) _ _, hy⟩
                      rw [hy]
                      exact (HR.out.1.keep (Md.ofBelow (F := fun _ => False) (below_drewN (Below.refl _ _) _)) (fun h => h)).at (x + 1)
                    clear hw9 c0 c1 f1
                    obtain ⟨⟨c0, c1, -⟩, -⟩ := HW9.out.1.cells
                    rw [← HS.out.1] at c0
                    have hyl : ¬ y ≤ s.size := by omega
                    have hyi : ¬ (y : Int) ≤ (s.size : Int) := by omega
                    have hyN : decide (y ≤ s.size) = false := decide_eq_false hyl
                    have hyd : decide ((y : Int) ≤ (s.size : Int)) = false := decide_eq_false hyi
                    clear hy
                    go_quiet (fail)
                    go_wp2
                    go_ret
                    have hy := HW9.out.2.2
                    exact ⟨y, false, rfl, HW9.out.1.keep (Md.ofBelow (F := fun _ => False) (below_drewN (Below.refl _ _) _)) (fun h => h), HW9.out.2.1.below (below_drewN (Below.refl _ _) _), .inr ⟨rfl, by have := HG.out; omega, .inr (H7.out.2.2.1.trans HN.out)⟩⟩
            · have h34 : ¬ s[a2].toNat = 34 := by rw [hsc]; intro e; exact hmk (.inl (UInt8.toNat_inj.1 e))
              have h39 : ¬ s[a2].toNat = 39 := by rw [hsc]; intro e; exact hmk (.inr (UInt8.toNat_inj.1 e))
              have HN : Hid (quoL (l.drop a2) = none) := by
                show _ = _
                rw [hd]
                simp only [quoL, hmk, if_false]
              have g34 : ((s[a2].toNat : Int) != 34) = true := by rw [bne_iff_ne]; omega
              have g39 : ((s[a2].toNat : Int) != 39) = true := by rw [bne_iff_ne]; omega
              clear hmk hsc hd
              go_wp2_with fail
              go_quiet (fail)
              go_wp2
              go_ret
              exact ⟨a2, false, rfl, H7.out.1.keep (Md.ofBelow (F := fun _ => False) (below_drewN (Below.refl _ _) _)) (fun h => h), H7.out.2.1.below (below_drewN (Below.refl _ _) _), .inr ⟨rfl, by have := HK.out.1; omega, .inr (H7.out.2.2.1.trans HN.out)⟩⟩
          · have hai : (s.size : Int) ≤ (a2 : Int) := by omega
            have hgd : decide ((s.size : Int) ≤ (a2 : Int)) = true := decide_eq_true hai
            have HN : Hid (quoL (l.drop a2) = none) := by
              show _ = _
              rw [List.drop_eq_nil_of_le (by omega)]
              rfl
            go_wp2_with fail
            go_quiet (fail)
            go_wp2
            go_ret
            exact ⟨a2, false, rfl, H7.out.1.keep (Md.ofBelow (F := fun _ => False) (below_drewN (Below.refl _ _) _)) (fun h => h), H7.out.2.1.below (below_drewN (Below.refl _ _) _), .inr ⟨rfl, by have := HK.out.1; omega, .inr (H7.out.2.2.1.trans HN.out)⟩⟩
end Go.Proofs.YtohkocknpmnakaaGreatDoor

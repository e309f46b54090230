/-
  The document's Parse.
-/
import Derived.Test.YtohkocknpmnakaaGreatDoorRpF
import Derived.Test.YtohkocknpmnakaaGreatDoorRpG
import Derived.Test.YtohkocknpmnakaaGreatDoorRefCount
namespace Go.Proofs.YtohkocknpmnakaaGreatDoor
open Go.RowKit

theorem elq_all : ∀ k, k ≤ 16 → ElQ k
  | 0, _ => elq_zero
  | k + 1, h => elq_succ k (by omega) (coq_of k (by omega) (elq_all k (by omega)))

theorem Ein.two {W : World} (l : List UInt8) : Ein W ((W.alloc (.cells #[.string ⟨#[]⟩, .string ⟨#[]⟩, .slice none 0 0] 30)).alloc (.cells #[.string ⟨l.toArray⟩, .int .i64 0, .bool false] 59)) (W.heap.size + 1) W.heap.size l 0 false (.string ⟨#[]⟩) (.string ⟨#[]⟩) (.slice none 0 0) := by
  have m2 : Md (fun _ => False) (W.alloc (.cells #[.string ⟨#[]⟩, .string ⟨#[]⟩, .slice none 0 0] 30)) ((W.alloc (.cells #[.string ⟨#[]⟩, .string ⟨#[]⟩, .slice none 0 0] 30)).alloc (.cells #[.string ⟨l.toArray⟩, .int .i64 0, .bool false] 59)) := (Md.refl _ _).alloc _
  have e1 : (W.alloc (.cells #[.string ⟨#[]⟩, .string ⟨#[]⟩, .slice none 0 0] 30)).heap.size = W.heap.size + 1 := by show (W.heap.push _).size = _; simp
  have e2 : ((W.alloc (.cells #[.string ⟨#[]⟩, .string ⟨#[]⟩, .slice none 0 0] 30)).alloc (.cells #[.string ⟨l.toArray⟩, .int .i64 0, .bool false] 59)).heap.size = W.heap.size + 2 := by show ((W.heap.push _).push _).size = _; simp
  have h2 := heap_alloc_new (W.alloc (.cells #[.string ⟨#[]⟩, .string ⟨#[]⟩, .slice none 0 0] 30)) (.cells #[.string ⟨l.toArray⟩, .int .i64 0, .bool false] 59)
  rw [e1] at h2
  exact ⟨h2, keep_blk (heap_alloc_new W _) m2 (fun h => h), ((Md.refl _ _).alloc _).alloc _, by omega, by omega, by omega, Nat.le_refl _⟩
theorem Ein.low {W w : World} {p q : Nat} {l : List UInt8} {a : Nat} {b : Bool} {x y z : Value} (h : Ein W w p q l a b x y z) (hp : W.heap.size ≤ p) : Below W.heap.size W w :=
  Md.toBelow (Below.refl _ _) h.2.2.1 (fun b hb e => by omega) (Nat.le_refl _)

set_option maxRecDepth 20000 in
set_option maxHeartbeats 3200000 in
theorem parse_ref (l : List UInt8) (W : World) (hs : l.length ≤ maxLen) :
    Calls Tryz.prog 10 #[.string ⟨l.toArray⟩] W fun e w' => PaR l W e w' := by
  have hz : l.length ≤ 9223372036854775807 := by unfold maxLen at hs; exact hs
  obtain ⟨s, hss⟩ : ∃ s : ByteArray, s = ⟨l.toArray⟩ := ⟨_, rfl⟩
  have HS : Hid (s = ⟨l.toArray⟩ ∧ s.size = l.length) := ⟨hss, by rw [hss, mk_size]⟩
  have hsz : l.length = s.size := HS.out.2.symm
  by_cases hlong : 65536 < l.length
  · have hL : (65536 : Int) < (s.size : Int) := by omega
    have HB : Hid (Below W.heap.size W (W.alloc (.cells #[.string ⟨#[]⟩, .string ⟨#[]⟩, .slice none 0 0] 30))) := (Below.refl _ _).alloc (Nat.le_refl _) _
    rw [← hss]
    clear hss hs
    go_enter Tryz.func10, Tryz.ntmps10
    go_wp2
    exact bodyPost_ret (v := .tuple #[ndZ, .int .i64 2]) (by simp [results, Tryz.results10, go_sem, ndZ]) rfl ⟨HB.out, .inl ⟨hlong, rfl⟩⟩
  · have hL : ¬ (65536 : Int) < (s.size : Int) := by omega
    have hl : l.length ≤ 65536 := by omega
    obtain ⟨w0, hw0⟩ : ∃ w0, w0 = (W.alloc (.cells #[.string ⟨#[]⟩, .string ⟨#[]⟩, .slice none 0 0] 30)).alloc (.cells #[.string s, .int .i64 0, .bool false] 59) := ⟨_, rfl⟩
    obtain ⟨p, hp⟩ : ∃ p, p = W.heap.size + 1 := ⟨_, rfl⟩
    obtain ⟨q, hq⟩ : ∃ q, q = W.heap.size := ⟨_, rfl⟩
    have H0 : Hid (Ein W w0 p q l 0 false (.string ⟨#[]⟩) (.string ⟨#[]⟩) (.slice none 0 0)) := by
      rw [hw0, hp, hq, hss]
      exact Ein.two l
    have HQ : Hid (W.heap.size ≤ p) := by show _ ≤ _; omega
    have KL := (show Hid (Calls Tryz.prog 30 #[.string s] w0 fun e w' => e = .returned (.bool (cntP xmlP l).isSome) ∧ w' = w0) from by
      have h := refLegal_any s w0 (by rw [← hsz]; exact hs)
      have e : s.data.toList = l := by rw [hss]
      rw [e] at h
      exact h.mono fun e w' h => ⟨h.1, h.2.symm⟩)
    rw [← hss]
    clear hss hs
    go_enter Tryz.func10, Tryz.ntmps10
    go_wp2_with fail
    rw [← hw0, ← hp, ← hq]
    clear hw0 hp hq
    refine KL.out.mono ?_
    rintro e w' ⟨rfl, hww⟩
    rw [hww]
    clear hww KL
    cases hleg : (cntP xmlP l).isSome with
    | false =>
      have HF : Hid (prsL l = none) := by show prsL l = none; unfold prsL; rw [hleg]; rfl
      have HE9 : Hid (Ein W w0 p q l 0 false (.string ⟨#[]⟩) (.string ⟨#[]⟩) (.slice none 0 0)) := H0.out
      obtain ⟨-, ⟨q0, q1, q2⟩, f0, f1, f2⟩ := HE9.out.facts
      clear hleg
      go_wp2
      have H9 := HE9.out.answer (.string ⟨#[]⟩) (.string ⟨#[]⟩) (.slice none 0 0)
      obtain ⟨-, ⟨c0, c1, c2⟩, -⟩ := H9.facts
      exact bodyPost_ret (v := .tuple #[ndZ, .int .i64 130]) (by simp [results, Tryz.results10, go_sem, ndZ, c0, c1, c2]) rfl ⟨H9.low HQ.out, .inr (.inl ⟨by omega, HF.out, rfl⟩)⟩
    | true =>
      have HPL : Hid (prsL l = docF une l) := by show prsL l = _; unfold prsL; rw [hleg]; rfl
      have KP := prolog_ref p l w0 H0.out.1 hl
      clear hleg
      go_wp2_with fail
      refine KP.mono ?_
      clear KP
      rintro e w1 ⟨z, r, rfl, hr, hzl, hm, ⟨rfl, hdc⟩ | ⟨rfl, hdc⟩⟩
      · have H1 : Hid (Ein W w1 p q l z false (.string ⟨#[]⟩) (.string ⟨#[]⟩) (.slice none 0 0)) := H0.out.step hm hr
        have HDO : Hid (docF une l = (elemF une 16 (skp (l.drop z))).bind fun x => if skp x.2 = [] then some x.1 else none) := by
          show _ = _
          unfold docF
          rcases hdc with hdc | ⟨hdc, hel⟩
          · rw [hdc, Option.bind_some]
          · rw [hdc, hel]
            rfl
        have K2 := skip_ref p z l false w1 hr hzl hl
        clear hr hm hdc
        go_wp2_with fail
        refine K2.mono ?_
        clear K2
        rintro e w2 ⟨z1, rfl, hz1, hz2, hd, hr, hm⟩
        have H2 : Hid (Ein W w2 p q l z1 false (.string ⟨#[]⟩) (.string ⟨#[]⟩) (.slice none 0 0) ∧ l.drop z1 = skp (l.drop z)) := ⟨H1.out.step hm hr, hd⟩
        have K3 := elq_all 16 (Nat.le_refl _) p z1 l w2 hr hz2 hl
        rw [show ((17 - 16 : Nat) : Int) = 1 from rfl] at K3
        clear hr hm hd
        go_wp2_with fail
        refine K3.mono ?_
        clear K3
        rintro e w3 (⟨t, k', a, c, ho, hk', rfl, hkd, hr, hm⟩ | ⟨ho, ⟨n', t', a', m', c', rfl⟩, k', hk', hr, hm⟩)
        · obtain ⟨w4, hw4⟩ : ∃ w4, w4 = w3.alloc (.cells #[.string ⟨t.nm.toArray⟩, .string ⟨t.tx.toArray⟩, .slice a t.ks.length c] 30) := ⟨_, rfl⟩
          obtain ⟨nb, hnb⟩ : ∃ nb, nb = w3.heap.size := ⟨_, rfl⟩
          have H3 : Ein W w3 p q l k' false (.string ⟨#[]⟩) (.string ⟨#[]⟩) (.slice none 0 0) := H2.out.1.step hm hr
          have H4 : Hid (Ein W w4 p q l k' false (.string ⟨#[]⟩) (.string ⟨#[]⟩) (.slice none 0 0) ∧ Bn w4 nb (.string ⟨t.nm.toArray⟩) (.string ⟨t.tx.toArray⟩) (.slice a t.ks.length c) ∧ p < nb ∧ q < nb ∧ Kd (fun b => w2.heap.size ≤ b) 16 w4 a t.ks ∧ prsL l = (if skp (l.drop k') = [] then some t else none)) := by
            rw [hw4, hnb]
            refine ⟨H3.alloc _, heap_alloc_new _ _, H3.2.2.2.2.1, H3.2.2.2.2.2.1, hkd.md ((Md.refl (fun _ => False) _).alloc _) (fun _ _ _ h => h), ?_⟩
            rw [HPL.out, HDO.out, ← H2.out.2, ho, Option.bind_some]
          have K4 := skip_ref p k' l false w4 H4.out.1.1 hk' hl
          clear H3 hr hm hkd ho
          unfold ndV
          go_wp2_with fail
          rw [← hw4, ← hnb]
          clear hw4 hnb
          refine K4.mono ?_
          clear K4
          rintro e w5 ⟨k2, rfl, hk1, hk2, hd, hr, hm⟩
          have hpq2 : q < w2.heap.size := H2.out.1.2.2.2.2.2.1
          have hpp2 : p < w2.heap.size := H2.out.1.2.2.2.2.1
          have H5 : Hid (Ein W w5 p q l k2 false (.string ⟨#[]⟩) (.string ⟨#[]⟩) (.slice none 0 0) ∧ Bn w5 nb (.string ⟨t.nm.toArray⟩) (.string ⟨t.tx.toArray⟩) (.slice a t.ks.length c) ∧ Kd (fun b => w2.heap.size ≤ b) 16 w5 a t.ks ∧ prsL l = (if l.drop k2 = [] then some t else none)) := ⟨H4.out.1.step hm hr, H4.out.2.1.keep hm (by have := H4.out.2.2.1; omega), H4.out.2.2.2.2.1.md hm (fun b _ hg e => by omega), by rw [H4.out.2.2.2.2.2, hd]⟩
          obtain ⟨⟨p2, pf⟩, ⟨q0, q1, q2⟩, f0, f1, f2⟩ := H5.out.1.facts
          have p1 := H5.out.1.1.cells.1.2.1
          obtain ⟨⟨n0, n1, n2⟩, -⟩ := H5.out.2.1.cells
          have hqn : q ≠ nb := by have := H4.out.2.2.2.1; omega
          clear hr hm hd
          by_cases hend : k2 = s.size
          · have HF : Hid (prsL l = some t) := by
              show _ = _
              rw [H5.out.2.2.2, if_pos (List.drop_eq_nil_of_le (by omega))]
            have hb1 : ((k2 : Int) != (s.size : Int)) = false := by rw [hend]; simp
            have hb2 : (k2 != s.size) = false := by rw [hend]; simp
            have HEnd : Hid (k2 = s.size) := hend
            clear hend
            go_wp2
            have H9 := H5.out.1.answer (.string ⟨t.nm.toArray⟩) (.string ⟨t.tx.toArray⟩) (.slice a t.ks.length c)
            obtain ⟨-, ⟨c0, c1, c2⟩, -⟩ := H9.facts
            have hmq : Md (fun b => b = q) w5 (((w5.setCell ⟨q, 0, none⟩ (.string ⟨t.nm.toArray⟩)).setCell ⟨q, 1, none⟩ (.string ⟨t.tx.toArray⟩)).setCell ⟨q, 2, none⟩ (.slice a t.ks.length c)) := ((((Md.refl (fun b => b = q) _).set (.inl rfl) _ _).set (.inl rfl) _ _).set (.inl rfl) _ _)
            have hWq := H5.out.1.2.2.2.2.2.2
            exact bodyPost_ret (v := .tuple #[ndV t a c, .int .i64 0]) (by simp [results, Tryz.results10, go_sem, ndV, c0, c1, c2]) rfl ⟨H9.low HQ.out, .inr (.inr ⟨by omega, t, a, c, HF.out, rfl, (H5.out.2.2.1.md hmq (fun b _ hg e => by omega)).mono (fun b hb _ => by omega)⟩)⟩
          · have HF : Hid (prsL l = none) := by
              show _ = _
              rw [H5.out.2.2.2, if_neg]
              intro e
              have := congrArg List.length e
              simp only [List.length_drop, List.length_nil] at this
              omega
            have hb1 : ((k2 : Int) != (s.size : Int)) = true := by rw [bne_iff_ne]; omega
            have hb2 : (k2 != s.size) = true := by rw [bne_iff_ne]; exact hend
            have HE9 : Hid (Ein W w5 p q l k2 false (.string ⟨#[]⟩) (.string ⟨#[]⟩) (.slice none 0 0)) := H5.out.1
            go_wp2
            have H9 := HE9.out.answer (.string ⟨#[]⟩) (.string ⟨#[]⟩) (.slice none 0 0)
            obtain ⟨-, ⟨c0, c1, c2⟩, -⟩ := H9.facts
            exact bodyPost_ret (v := .tuple #[ndZ, .int .i64 130]) (by simp [results, Tryz.results10, go_sem, ndZ, c0, c1, c2]) rfl ⟨H9.low HQ.out, .inr (.inl ⟨by omega, HF.out, rfl⟩)⟩
        · have HF : Hid (prsL l = none) := by show prsL l = none; rw [HPL.out, HDO.out, ← H2.out.2, ho]; rfl
          obtain ⟨w4, hw4⟩ : ∃ w4, w4 = w3.alloc (.cells #[.string n', .string t', .slice a' m' c'] 30) := ⟨_, rfl⟩
          have H4 : Hid (Ein W w4 p q l k' true (.string ⟨#[]⟩) (.string ⟨#[]⟩) (.slice none 0 0)) := by
            rw [hw4]
            exact (H2.out.1.step hm hr).alloc _
          have K4 : Calls Tryz.prog 32 #[.pointer (some ⟨p, 0, none⟩)] w4 fun e w' => ∃ (j : Int) (y2 : Nat), e = .returned (.int .i64 j) ∧ y2 ≤ l.length + 1 ∧ Rr w' p l y2 true ∧ Md (fun b => b = p) w4 w' := by
            by_cases hkl2 : k' ≤ l.length
            · refine (skip_ref p k' l true w4 H4.out.1 hkl2 hl).mono ?_
              rintro e w' ⟨y2, rfl, -, h2, -, hr, hm⟩
              exact ⟨_, y2, rfl, by omega, hr, hm⟩
            · refine (skip_past p k' l true w4 H4.out.1 (by omega) (by omega)).mono ?_
              rintro e w' ⟨rfl, hr, hm⟩
              exact ⟨_, k', rfl, hk', hr, hm⟩
          clear hr hm ho
          go_wp2_with fail
          rw [← hw4]
          clear hw4
          refine K4.mono ?_
          clear K4
          rintro e w5 ⟨j, y2, rfl, hy2, hr, hm⟩
          have HE9 : Hid (Ein W w5 p q l y2 true (.string ⟨#[]⟩) (.string ⟨#[]⟩) (.slice none 0 0)) := H4.out.step hm hr
          obtain ⟨⟨p2, pf⟩, ⟨q0, q1, q2⟩, f0, f1, f2⟩ := HE9.out.facts
          clear hr hm
          go_wp2
          have H9 := HE9.out.answer (.string ⟨#[]⟩) (.string ⟨#[]⟩) (.slice none 0 0)
          obtain ⟨-, ⟨c0, c1, c2⟩, -⟩ := H9.facts
          exact bodyPost_ret (v := .tuple #[ndZ, .int .i64 130]) (by simp [results, Tryz.results10, go_sem, ndZ, c0, c1, c2]) rfl ⟨H9.low HQ.out, .inr (.inl ⟨by omega, HF.out, rfl⟩)⟩
      · have HF : Hid (prsL l = none) := by show prsL l = none; rw [HPL.out]; unfold docF; rw [hdc]; rfl
        have HE9 : Hid (Ein W w1 p q l z false (.string ⟨#[]⟩) (.string ⟨#[]⟩) (.slice none 0 0)) := H0.out.step hm hr
        obtain ⟨-, ⟨q0, q1, q2⟩, f0, f1, f2⟩ := HE9.out.facts
        clear hr hm hdc
        go_wp2
        have H9 := HE9.out.answer (.string ⟨#[]⟩) (.string ⟨#[]⟩) (.slice none 0 0)
        obtain ⟨-, ⟨c0, c1, c2⟩, -⟩ := H9.facts
        exact bodyPost_ret (v := .tuple #[ndZ, .int .i64 130]) (by simp [results, Tryz.results10, go_sem, ndZ, c0, c1, c2]) rfl ⟨H9.low HQ.out, .inr (.inl ⟨by omega, HF.out, rfl⟩)⟩
end Go.Proofs.YtohkocknpmnakaaGreatDoor

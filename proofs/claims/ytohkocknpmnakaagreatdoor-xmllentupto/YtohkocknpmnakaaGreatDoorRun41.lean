/-
  The document's reader: name.
-/
import Derived.Test.YtohkocknpmnakaaGreatDoorRpA
namespace Go.Proofs.YtohkocknpmnakaaGreatDoor
open Go.RowKit

theorem let_inn {c : UInt8} (h : letB c = true) : innB c = true := by
  have h' : letZ (c.toNat : Int) = true := h
  show innZ (c.toNat : Int) = true
  simp only [letZ, innZ, decide_eq_true_eq, Bool.or_eq_true] at h' ⊢
  omega
theorem nm_let {c : UInt8} {r : List UInt8} (h : letB c = true) : nmL (c :: r) = (c :: r).takeWhile innB := by
  simp only [nmL, h, if_true]
  rw [List.takeWhile_cons_of_pos (let_inn h)]
theorem nm_no {c : UInt8} {r : List UInt8} (h : letB c = false) : nmL (c :: r) = [] := by
  simp [nmL, h]
/-- A reader's text at a. -/
theorem at_ba (s : ByteArray) (l : List UInt8) (h : s = ⟨l.toArray⟩) (a : Nat) (hs : a < s.size) (hl : a < l.length) : s[a] = l[a] := by
  subst h
  rfl

set_option maxRecDepth 20000 in
set_option maxHeartbeats 1600000 in
theorem rname_ref (p k : Nat) (l : List UInt8) (b : Bool) (w : World) (h : Rr w p l k b) (hk : k ≤ l.length) (hl : l.length ≤ 65536) :
    Calls Tryz.prog 64 #[.pointer (some ⟨p, 0, none⟩)] w fun e w' => e = .returned (.string ⟨(nmL (l.drop k)).toArray⟩) ∧ Rr w' p l (k + (nmL (l.drop k)).length) b ∧ Md (fun b => b = p) w w' := by
  have HR0 : Hid (Rr w p l k b) := h
  obtain ⟨s, hs⟩ : ∃ s : ByteArray, s = ⟨l.toArray⟩ := ⟨_, rfl⟩
  have HS : Hid (s = ⟨l.toArray⟩ ∧ s.size = l.length) := ⟨hs, by rw [hs, mk_size]⟩
  have hsz : l.length = s.size := HS.out.2.symm
  obtain ⟨O, hO⟩ : ∃ O, O = nmL (l.drop k) := ⟨_, rfl⟩
  rw [← hO]
  obtain ⟨⟨c0, c1, -⟩, -⟩ := h.cells
  rw [← hs] at c0
  clear hs h
  by_cases hlt : k < s.size
  · have hal : k < l.length := by omega
    have hai : (k : Int) < (s.size : Int) := by omega
    have hgd : decide ((k : Int) < (s.size : Int)) = true := decide_eq_true hai
    have hsc := at_ba s l HS.out.1 k hlt hal
    have hd : l.drop k = l[k] :: l.drop (k + 1) := (List.getElem_cons_drop ..).symm
    have KL := (show Hid (∀ W, Calls Tryz.prog 48 #[.int .u8 (s[k].toNat : Int)] W fun e w' => e = .returned (.bool (letB l[k])) ∧ w' = W) from fun W => by
      rw [hsc]
      exact (letter_any _ W (by omega) (by have := l[k].toNat_lt; omega)).mono fun e w' h => ⟨h.1, h.2.symm⟩)
    cases hw : letB l[k] with
    | true =>
      rw [hw] at KL
      have HO : Hid (O = (l.drop k).takeWhile innB) := by
        show _ = _
        rw [hO, hd, nm_let hw]
      clear hd hw hsc hO
      go_enter Tryz.func64, Tryz.ntmps64
      go_wp2
      go_quiet ((go_at_call 48; exact Calls.quiet_of_same (KL.out _)))
      go_wp2
      have HD0 : Hid (Rr (w.drewN nq) p l k b ∧ Md (fun b => b = p) w (w.drewN nq)) := ⟨HR0.out.keep (Md.ofBelow (F := fun _ => False) (below_drewN (Below.refl _ _) _)) (fun h => h), Md.ofBelow (below_drewN (Below.refl _ _) _)⟩
      clear c0 c1
      go_loopg [] l.length (fun gf wx => ∃ a : Nat, k ≤ a ∧ a ≤ l.length ∧ l.length ≤ a + gf ∧ O = (l.drop k).take (a - k) ++ (l.drop a).takeWhile innB ∧ Rr wx p l a b ∧ Md (fun b => b = p) w wx)
      case atStart => exact ⟨k, Nat.le_refl _, by omega, by omega, by rw [HO.out]; simp, HD0.out.1, HD0.out.2⟩
      case round =>
        obtain ⟨a, hka, hla, hgf, hoo, hr, hmd⟩ := hrel
        obtain ⟨⟨c0, c1, -⟩, -, f1, -⟩ := hr.cells
        rw [← HS.out.1] at c0
        have HRR : Hid (Rr wr p l a b ∧ Md (fun b => b = p) w wr ∧ O = (l.drop k).take (a - k) ++ (l.drop a).takeWhile innB) := ⟨hr, hmd, hoo⟩
        have HEND : Hid (O = (l.drop k).take (a - k) → O.length = a - k ∧ s.extract k a = ⟨O.toArray⟩) := fun h => by
          have h1 : O.length = a - k := by rw [h]; simp; omega
          refine ⟨h1, ?_⟩
          rw [HS.out.1, mk_ext, h, List.drop_take]
        clear hr hmd hoo
        have hkai : (k : Int) ≤ (a : Int) := by omega
        have hasi : (a : Int) ≤ (s.size : Int) := by omega
        by_cases hlt2 : a < s.size
        · have hal2 : a < l.length := by omega
          obtain ⟨g', rfl⟩ | hg0 : (∃ g', gk = g' + 1) ∨ gk = 0 := by
            cases gk with
            | zero => exact .inr rfl
            | succ g => exact .inl ⟨g, rfl⟩
          · have hai2 : (a : Int) < (s.size : Int) := by omega
            have hgd2 : decide ((a : Int) < (s.size : Int)) = true := decide_eq_true hai2
            have hsc := at_ba s l HS.out.1 a hlt2 hal2
            have hd : l.drop a = l[a] :: l.drop (a + 1) := (List.getElem_cons_drop ..).symm
            have KI := (show Hid (∀ W, Calls Tryz.prog 47 #[.int .u8 (s[a].toNat : Int)] W fun e w' => e = .returned (.bool (innB l[a])) ∧ w' = W) from fun W => by
              rw [hsc]
              exact (inner_any _ W (by omega) (by have := l[a].toNat_lt; omega)).mono fun e w' h => ⟨h.1, h.2.symm⟩)
            have htk : (l.drop k).take (a + 1 - k) = (l.drop k).take (a - k) ++ [l[a]] := by
              have e : a + 1 - k = (a - k) + 1 := by omega
              rw [e, List.take_succ_eq_append_getElem (by simp; omega)]
              congr 2
              rw [List.getElem_drop]
              congr 1
              omega
            cases hw : innB l[a] with
            | true =>
              rw [hw] at KI
              have HN : Hid (O = (l.drop k).take (a + 1 - k) ++ (l.drop (a + 1)).takeWhile innB) := by
                show _ = _
                rw [HRR.out.2.2, htk, hd, List.takeWhile_cons_of_pos hw]
                simp
              clear hd hw hsc htk KL HEND
              go_wp2
              go_quiet ((go_at_call 47; exact Calls.quiet_of_same (KI.out _)))
              go_wp2
              go_roundg g'
              case measure => omega
              case rel =>
                have e1 : ((a : Int) + 1) = ((a + 1 : Nat) : Int) := by omega
                refine ⟨a + 1, by omega, by omega, by omega, HN.out, ?_, ?_⟩
                · rw [e1]
                  exact (HRR.out.1.keep (Md.ofBelow (F := fun _ => False) (below_drewN (Below.refl _ _) _)) (fun h => h)).at _
                · exact ((HRR.out.2.1.below (below_drewN (Below.refl _ _) _))).set (.inl rfl) _ _
            | false =>
              rw [hw] at KI
              have HN : Hid (O = (l.drop k).take (a - k)) := by
                show _ = _
                rw [HRR.out.2.2, hd, List.takeWhile_cons_of_neg (by rw [hw]; decide)]
                simp
              obtain ⟨n1, n2⟩ := HEND.out HN.out
              have HL1 : Hid (k + O.length = a) := by show _ = _; omega
              clear hd hw hsc htk KL HEND n1
              go_wp2
              go_quiet ((go_at_call 47; exact Calls.quiet_of_same (KI.out _)))
              go_wp2
              go_quiet (fail)
              go_wp2
              go_ret
              rw [HL1.out]
              exact ⟨rfl, HRR.out.1.keep (Md.ofBelow (F := fun _ => False) (below_drewN (below_drewN (Below.refl _ _) _) _)) (fun h => h), HRR.out.2.1.below (below_drewN (below_drewN (Below.refl _ _) _) _)⟩
          · omega
        · have hai2 : ¬ (a : Int) < (s.size : Int) := by omega
          have hgd2 : decide ((a : Int) < (s.size : Int)) = false := decide_eq_false hai2
          have HN : Hid (O = (l.drop k).take (a - k)) := by
            show _ = _
            have h0 : l.drop a = [] := List.drop_eq_nil_of_le (by omega)
            rw [HRR.out.2.2, h0]
            simp
          obtain ⟨n1, n2⟩ := HEND.out HN.out
          have HL1 : Hid (k + O.length = a) := by show _ = _; omega
          clear KL HEND n1
          go_wp2
          go_quiet (fail)
          go_wp2
          go_quiet (fail)
          go_wp2
          go_ret
          rw [HL1.out]
          exact ⟨rfl, HRR.out.1.keep (Md.ofBelow (F := fun _ => False) (below_drewN (below_drewN (Below.refl _ _) _) _)) (fun h => h), HRR.out.2.1.below (below_drewN (below_drewN (Below.refl _ _) _) _)⟩
    | false =>
      rw [hw] at KL
      have HO : Hid (O = []) := by
        show _ = _
        rw [hO, hd, nm_no hw]
      clear hd hw hsc hO
      have hkk : (k : Int) ≤ (s.size : Int) := by omega
      have hx0 : s.extract k k = ⟨#[]⟩ := by
        rw [HS.out.1, mk_ext]
        simp
      go_enter Tryz.func64, Tryz.ntmps64
      go_wp2
      go_quiet ((go_at_call 48; exact Calls.quiet_of_same (KL.out _)))
      go_wp2
      go_quiet (fail)
      go_wp2
      go_ret
      rw [HO.out]
      exact ⟨rfl, HR0.out.keep (Md.ofBelow (F := fun _ => False) (below_drewN (below_drewN (Below.refl _ _) _) _)) (fun h => h), Md.ofBelow (below_drewN (below_drewN (Below.refl _ _) _) _)⟩
  · have HO : Hid (O = []) := by
      show _ = _
      rw [hO, List.drop_eq_nil_of_le (by omega)]
      rfl
    have hai : ¬ (k : Int) < (s.size : Int) := by omega
    have hgd : decide ((k : Int) < (s.size : Int)) = false := decide_eq_false hai
    have hkk : (k : Int) ≤ (s.size : Int) := by omega
    clear hO
    have hx0 : s.extract k k = ⟨#[]⟩ := by
      rw [HS.out.1, mk_ext]
      simp
    go_enter Tryz.func64, Tryz.ntmps64
    go_wp2
    go_quiet (fail)
    go_wp2
    go_quiet (fail)
    go_wp2
    go_ret
    rw [HO.out]
    exact ⟨rfl, HR0.out.keep (Md.ofBelow (F := fun _ => False) (below_drewN (below_drewN (Below.refl _ _) _) _)) (fun h => h), Md.ofBelow (below_drewN (below_drewN (Below.refl _ _) _) _)⟩
end Go.Proofs.YtohkocknpmnakaaGreatDoor
/-
  The document's reader: skip, behind the text's end.
-/
namespace Go.Proofs.YtohkocknpmnakaaGreatDoor
open Go.RowKit

set_option maxRecDepth 20000 in
set_option maxHeartbeats 1600000 in
theorem skip_past (p k : Nat) (l : List UInt8) (b : Bool) (w : World) (h : Rr w p l k b) (hk : l.length ≤ k) (_hk2 : k ≤ 65540) :
    Calls Tryz.prog 32 #[.pointer (some ⟨p, 0, none⟩)] w fun e w' => e = .returned (.int .i64 0) ∧ Rr w' p l k b ∧ Md (fun b => b = p) w w' := by
  have HR0 : Hid (Rr w p l k b) := h
  obtain ⟨s, hs⟩ : ∃ s : ByteArray, s = ⟨l.toArray⟩ := ⟨_, rfl⟩
  have HS : Hid (s = ⟨l.toArray⟩ ∧ s.size = l.length) := ⟨hs, by rw [hs, mk_size]⟩
  have hsz : l.length = s.size := HS.out.2.symm
  clear hs h
  go_enter Tryz.func32, Tryz.ntmps32
  go_wp2
  go_loopw [3] (fun v wx => v = .int .i64 0 ∧ wx = w) (fun _ _ => 0)
  case atStart => exact ⟨rfl, rfl⟩
  case round =>
    obtain ⟨rfl, rfl⟩ := hrel
    obtain ⟨⟨c0, c1, -⟩, -⟩ := HR0.out.cells
    rw [← HS.out.1] at c0
    have hnk : ¬ k < s.size := by omega
    have hai : ¬ (k : Int) < (s.size : Int) := by omega
    have hgd : decide ((k : Int) < (s.size : Int)) = false := decide_eq_false hai
    go_wp2
    go_quiet (fail)
    go_wp2
    go_ret
    exact ⟨rfl, HR0.out.keep (Md.ofBelow (F := fun _ => False) (below_drewN (Below.refl _ _) _)) (fun h => h), Md.ofBelow (below_drewN (Below.refl _ _) _)⟩
end Go.Proofs.YtohkocknpmnakaaGreatDoor

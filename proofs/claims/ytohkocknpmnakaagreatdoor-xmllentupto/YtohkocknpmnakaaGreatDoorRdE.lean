/-
  A reader's quoted texts.
-/
import Derived.Test.YtohkocknpmnakaaGreatDoorRdD
import Derived.Deep.RegionHeld3
import Derived.Deep.RegionWith
import Derived.BigRegion
namespace Go.Proofs.YtohkocknpmnakaaGreatDoor
open Go.RowKit

theorem mark_q (c : UInt8) : decide ((0 : Int) ≤ Lib.indexByte [34, 39] c) = decide (c = 34 ∨ c = 39) := by
  rw [ibyte_mem, Bool.eq_iff_iff]
  simp
set_option maxRecDepth 20000 in
set_option maxHeartbeats 1600000 in
theorem quoted_any (p : Nat) (l : List UInt8) (w : World) (h : Rd w p l) (hm : Mx w) (hl : l.length ≤ 65536) :
    Calls Tryz.prog 86 #[.pointer (some ⟨p, 0, none⟩)] w fun e w' => e = .returned (.bool (quoL l).isSome) ∧ (∀ r, quoL l = some r → Rd w' p r) ∧ Md (fun b => b = p) w w' := by
  have c0 := cell_blk h 0
  have f0 := frozen_blk h 0
  simp only [List.getElem?_toArray] at c0
  have hnp := h.pos hm
  obtain ⟨X, hX⟩ : ∃ X, X = quoL l := ⟨_, rfl⟩
  rw [← hX]
  cases l with
  | nil =>
    have HQ : Hid (X = none) := hX
    have HS := (show Hid (∀ W, Calls Tryz.prog 53 #[.string ⟨#[]⟩, .string ⟨#[34, 39]⟩] W fun e w' => e = .returned (.bool false) ∧ W = w') from fun W => starts_nil _ W)
    clear h hm hX
    go_enter Tryz.func86, Tryz.ntmps86
    go_wp2_with fail
    refine wp_scope_ahead 0 rfl ?_
    go_wp2_with (go_at_call 53; refine (HS.out _).mono ?_; rintro e w' ⟨rfl, rfl⟩)
    go_step3
    refine ⟨rfl, ?_⟩
    go_wp2
    rw [Exit.noGoto_ret]
    go_wp2
    go_ret
    exact ⟨ret_bool (by rw [HQ.out]; rfl), fun r hr => (by rw [HQ.out] at hr; cases hr), Md.refl _ _⟩
  | cons m r =>
    have HS := (show Hid (∀ W, Calls Tryz.prog 53 #[.string ⟨(m :: r).toArray⟩, .string ⟨#[34, 39]⟩] W fun e w' => e = .returned (.bool (decide (m = 34 ∨ m = 39))) ∧ W = w') from fun W => by
      have := starts_cons m r ⟨#[34, 39]⟩ W
      rw [← mark_q]
      exact this)
    by_cases hc : m = 34 ∨ m = 39
    · rw [decide_eq_true hc] at HS
      have hlr : r.length ≤ 65535 := by simp at hl; omega
      have HC := (show Hid (∀ W, Mx W → Calls Tryz.prog 54 #[.string ⟨r.toArray⟩, .string ⟨#[m]⟩] W fun e w' => e = .returned (.tuple #[.string ⟨(Lib.cut r [m]).1.toArray⟩, .string ⟨(Lib.cut r [m]).2.1.toArray⟩, .bool (Lib.cut r [m]).2.2]) ∧ ∃ n, w' = W.drewN n) from fun W hW => by
        obtain ⟨k, h0⟩ := hW
        exact strings_Cut ⟨r.toArray⟩ ⟨#[m]⟩ k W (by rw [mk_size]; omega) h0)
      rw [cut_one] at HC
      have HQ : Hid (X = if (upto m r).length = r.length ∨ (upto m r).any ltaB = true then none else some (r.drop ((upto m r).length + 1))) := by
        show _ = _
        rw [hX]
        simp only [quoL]
        rw [if_pos hc]
        rfl
      have HA := (show Hid (∀ W, Calls Tryz.prog 101 #[.string ⟨(upto m r).toArray⟩, .string ⟨#[60, 38]⟩] W fun e w' => e = .returned (.bool ((upto m r).any ltaB)) ∧ Below W.heap.size W w') from fun W => containsAny_any ⟨(upto m r).toArray⟩ W (by rw [mk_size]; have := upto_le m r; omega))
      obtain ⟨s, hs⟩ : ∃ s : ByteArray, s = ⟨(m :: r).toArray⟩ := ⟨_, rfl⟩
      have hsz : (1 : Int) ≤ (s.size : Int) := by rw [hs, mk_size]; simp; omega
      have hx1 : s.extract 1 s.size = ⟨r.toArray⟩ := by
        rw [hs, mk_ext, mk_size, List.take_length]
        simp
      have hx2 : s.extract 0 1 = ⟨#[m]⟩ := by
        rw [hs, mk_ext]
        simp
      rw [← hs] at c0 HS
      have HR := (show Hid (Rd w p (m :: r) ∧ Mx w) from ⟨h, hm⟩)
      have HCE := (show Hid (∀ w', Below w.heap.size w w' → w'.cell? ⟨p, 0, none⟩ = some (.string s) ∧ w'.frozen? ⟨p, 0, none⟩ = false ∧ Mx w' ∧ Rd w' p (m :: r)) from fun w' hb => by
        have r2 := h.keep (Md.ofBelow (F := fun _ => False) hb) (fun h => h)
        have c2 := cell_blk r2 0
        simp only [List.getElem?_toArray] at c2
        exact ⟨by rw [hs]; exact c2, frozen_blk r2 0, hm.md (Md.ofBelow (F := fun _ => False) hb) (fun h => h), r2⟩)
      have hb0 : Below w.heap.size w w.drew := (Below.refl _ _).drew
      have HBN := (show Hid (∀ k, Below w.heap.size w (w.drewN k)) from fun k => below_drewN (Below.refl _ _) k)
      clear h hm hc hs hX
      by_cases hn : (upto m r).length = r.length
      · rw [if_pos hn] at HC
        have HQ2 : Hid (X = none) := by
          have := HQ.out
          rw [if_pos (.inl hn)] at this
          exact this
        clear hn HQ
        go_enter Tryz.func86, Tryz.ntmps86
        go_wp2_with fail
        refine wp_scope_ahead 0 rfl ?_
        go_wp2_with (go_at_call 53; refine (HS.out _).mono ?_; rintro e w' ⟨rfl, rfl⟩)
        go_region_with
          (first
            | (go_at_call 54; (with_reducible refine Calls.mono (HC.out _ (HCE.out _ hb0).2.2.1) ?_); rintro e w1 ⟨rfl, n, rfl⟩))
        all_goals
          go_wp2
          go_step3
          refine ⟨rfl, ?_⟩
          go_wp2
          rw [Exit.noGoto_ret]
          go_wp2
          go_ret
          exact ⟨ret_bool (by rw [HQ2.out]; rfl), fun r hr => (by rw [HQ2.out] at hr; cases hr), (Md.ofBelow (F := fun b => b = p) (HBN.out _)).set (.inl rfl) _ _⟩
      · rw [if_neg hn] at HC
        have HQ2 : Hid (X = if (upto m r).any ltaB = true then none else some (r.drop ((upto m r).length + 1))) := by
          have := HQ.out
          simp only [hn, false_or] at this
          exact this
        clear hn HQ
        generalize (upto m r).any ltaB = A at *
        generalize upto m r = u at *
        generalize r.drop (u.length + 1) = q at *
        cases A
        all_goals
          go_enter Tryz.func86, Tryz.ntmps86
          go_wp2_with fail
          refine wp_scope_ahead 0 rfl ?_
          go_wp2_with (go_at_call 53; refine (HS.out _).mono ?_; rintro e w' ⟨rfl, rfl⟩)
          go_region_with
            (first
              | (go_at_call 54; (with_reducible refine Calls.mono (HC.out _ (HCE.out _ hb0).2.2.1) ?_); rintro e w1 ⟨rfl, n, rfl⟩))
          all_goals
            go_wp2_with fail
            refine (HA.out _).mono ?_
            rintro e w3 ⟨rfl, hb3⟩
            have HM : Hid (Rd w3 p q ∧ Md (fun b => b = p) w w3) := by
              have hb1 := HBN.out (1 + n)
              have r1 := (HCE.out _ hb1).2.2.2
              have r2 := (set_blk r1 0 (Value.string ⟨q.toArray⟩))
              have r3 : Rd ((w.drewN (1 + n)).setCell ⟨p, 0, none⟩ (.string ⟨q.toArray⟩)) p q := r2.trans rfl
              exact ⟨r3.keep (Md.ofBelow (F := fun _ => False) hb3) (fun h => h), ((Md.ofBelow (F := fun b => b = p) hb1).set (.inl rfl) 0 (Value.string ⟨q.toArray⟩)).below hb3⟩
            clear hb3
            go_wp2
            first
              | (rw [Jmp_ret]
                 go_wp2
                 go_ret
                 exact ⟨ret_bool (by rw [HQ2.out]; rfl), fun r hr => (by rw [HQ2.out] at hr; cases hr; exact HM.out.1), HM.out.2⟩)
              | (go_step3
                 refine ⟨rfl, ?_⟩
                 go_wp2
                 rw [Exit.noGoto_ret]
                 go_wp2
                 go_ret
                 exact ⟨ret_bool (by rw [HQ2.out]; rfl), fun r hr => (by rw [HQ2.out] at hr; cases hr), HM.out.2⟩)
    · rw [decide_eq_false hc] at HS
      have HQ : Hid (X = none) := by
        show _ = _
        rw [hX]
        simp only [quoL]
        rw [if_neg hc]
      clear h hm hX hc
      go_enter Tryz.func86, Tryz.ntmps86
      go_wp2_with fail
      refine wp_scope_ahead 0 rfl ?_
      go_wp2_with (go_at_call 53; refine (HS.out _).mono ?_; rintro e w' ⟨rfl, rfl⟩)
      go_step3
      refine ⟨rfl, ?_⟩
      go_wp2
      rw [Exit.noGoto_ret]
      go_wp2
      go_ret
      exact ⟨ret_bool (by rw [HQ.out]; rfl), fun r hr => (by rw [HQ.out] at hr; cases hr), Md.refl _ _⟩
end Go.Proofs.YtohkocknpmnakaaGreatDoor

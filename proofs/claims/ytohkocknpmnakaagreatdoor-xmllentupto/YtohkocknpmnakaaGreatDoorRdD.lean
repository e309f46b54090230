/-
  A reader's declaration, quoted texts and attributes.
-/
import Derived.Test.YtohkocknpmnakaaGreatDoorScp
namespace Go.Proofs.YtohkocknpmnakaaGreatDoor
open Go.RowKit

/-- internal/bytealg.MaxLen holds some int. -/
def Mx (w : World) : Prop := ∃ m : Int, w.cell? ⟨0, 0, none⟩ = some (.int .i64 m)
theorem Mx.pos {w : World} (h : Mx w) : 0 < w.heap.size := by
  obtain ⟨m, hm⟩ := h
  exact block_lt_of_cell hm
theorem Mx.md {F : Nat → Prop} {w w' : World} (h : Mx w) (hm : Md F w w') (hF : ¬ F 0) : Mx w' := by
  have hp := h.pos
  obtain ⟨m, h0⟩ := h
  exact ⟨m, by rw [World.cell?_of_block (w := w) (a := ⟨0, 0, none⟩) (hm.block 0 hp hF)]; exact h0⟩
theorem Rd.pos {w : World} {p : Nat} {l : List UInt8} (h : Rd w p l) (hm : Mx w) : ¬ 0 = p := by
  rintro rfl
  obtain ⟨m, h0⟩ := hm
  rw [cell_blk h 0] at h0
  simp at h0

set_option maxHeartbeats 400000 in
theorem starts_nil (q : ByteArray) (w : World) : Calls Tryz.prog 53 #[.string ⟨#[]⟩, .string q] w fun e w' => e = .returned (.bool false) ∧ w = w' := by
  go_enter Tryz.func53, Tryz.ntmps53
  go_wp2
  go_ret
  exact ⟨rfl, rfl⟩
set_option maxHeartbeats 400000 in
theorem starts_cons (c : UInt8) (r : List UInt8) (q : ByteArray) (w : World) : Calls Tryz.prog 53 #[.string ⟨(c :: r).toArray⟩, .string q] w fun e w' => e = .returned (.bool (decide ((0 : Int) ≤ Lib.indexByte q.data.toList c))) ∧ w = w' := by
  obtain ⟨s, hs⟩ : ∃ s : ByteArray, s = ⟨(c :: r).toArray⟩ := ⟨_, rfl⟩
  have h0 : 0 < s.size := by rw [hs, mk_size]; simp
  have hc : s[0] = c := by subst hs; rfl
  have hne : s.toList.isEmpty = false := by
    have : s.toList = c :: r := by rw [Lib.toList_data, hs]
    rw [this]
    rfl
  have HI : Hid (∀ W, Calls Tryz.prog 80 #[.string q, .int .u8 (s[0].toNat : Int)] W fun e w' => e = .returned (.int .i64 (Lib.indexByte q.data.toList c)) ∧ w' = W) := by
    intro W
    have := strings_IndexByte q (s[0].toNat : Int) W
    rw [hc] at this ⊢
    simpa using this
  rw [← hs]
  clear hs hc
  go_enter Tryz.func53, Tryz.ntmps53
  go_wp2_with (go_at_call 80; refine (HI.out _).mono ?_; rintro e w' ⟨rfl, rfl⟩)
  go_ret
  exact ⟨rfl, rfl⟩

theorem ibyte_mem (c : UInt8) : ∀ q : List UInt8, decide ((0 : Int) ≤ Lib.indexByte q c) = q.contains c
  | [] => rfl
  | a :: q => by
    have ih := ibyte_mem c q
    have hge := Lib.indexByte_ge q c
    unfold Lib.indexByte
    rw [List.contains_cons, ← ih, show (c == a) = (a == c) from Bool.beq_comm]
    cases (a == c)
    · simp only [Bool.false_eq_true, if_false, Bool.false_or]
      by_cases hm : Lib.indexByte q c = -1
      · rw [hm]; rfl
      · have : (Lib.indexByte q c == -1) = false := by simp [hm]
        rw [this, Bool.eq_iff_iff]
        simp
        omega
    · simp
theorem ws_mem (c : UInt8) : wsB c = ([32, 9, 10, 13] : List UInt8).contains c := by
  rw [Bool.eq_iff_iff]
  simp only [List.contains_iff_mem, List.mem_cons, List.not_mem_nil, or_false, wsB, wsZ, decide_eq_true_eq]
  constructor
  · rintro (h | h | h | h)
    · left; exact UInt8.toNat_inj.1 (by simp; omega)
    · right; left; exact UInt8.toNat_inj.1 (by simp; omega)
    · right; right; left; exact UInt8.toNat_inj.1 (by simp; omega)
    · right; right; right; exact UInt8.toNat_inj.1 (by simp; omega)
  · rintro (rfl | rfl | rfl | rfl) <;> decide
theorem ws_mark (c : UInt8) : decide ((0 : Int) ≤ Lib.indexByte [32, 9, 10, 13, 63] c) = decide (wsB c = true ∨ c = 63) := by
  rw [ibyte_mem, Bool.eq_iff_iff, ws_mem]
  simp [or_assoc]

set_option maxRecDepth 20000 in
set_option maxHeartbeats 1600000 in
theorem decl_any (p : Nat) (l : List UInt8) (w : World) (h : Rd w p l) (hm : Mx w) (hl : l.length ≤ 65536) :
    Calls Tryz.prog 27 #[.pointer (some ⟨p, 0, none⟩)] w fun e w' => e = .returned (.bool (declL l).isSome) ∧ (∀ r, declL l = some r → Rd w' p r) ∧ Md (fun b => b = p) w w' := by
  cases he : eat [60, 63, 120, 109, 108] l with
  | none =>
    have HT := (show Hid (Calls Tryz.prog 52 #[.pointer (some ⟨p, 0, none⟩), .string ⟨#[60, 63, 120, 109, 108]⟩] w fun e w' => e = .returned (.bool false) ∧ Rd w' p l ∧ Md (fun b => b = p) w w') from take_no p l ⟨#[60, 63, 120, 109, 108]⟩ w h he)
    have HD : Hid (declL l = some l) := by
      show _ = _
      unfold declL
      rw [he]
    clear h he hm
    go_enter Tryz.func27, Tryz.ntmps27
    go_wp2_with fail
    refine wp_scope_ahead 0 rfl ?_
    go_wp2_with fail
    refine HT.out.mono ?_
    rintro e w1 ⟨rfl, h1, h2⟩
    have H1 := (show Hid (Rd w1 p l ∧ Md (fun b => b = p) w w1) from ⟨h1, h2⟩)
    clear h1 h2
    go_wp2_with fail
    rw [Jmp_ret]
    go_wp2
    go_ret
    rw [HD.out]
    refine ⟨rfl, fun r hr => ?_, H1.out.2⟩
    cases hr
    exact H1.out.1
  | some r =>
    have hrl := (eat_len he).1
    have HT := (show Hid (Calls Tryz.prog 52 #[.pointer (some ⟨p, 0, none⟩), .string ⟨#[60, 63, 120, 109, 108]⟩] w fun e w' => e = .returned (.bool true) ∧ Rd w' p r ∧ Md (fun b => b = p) w w') from take_yes p l r ⟨#[60, 63, 120, 109, 108]⟩ w h he)
    have hnp := h.pos hm
    cases r with
    | nil =>
      have HD : Hid (declL l = none) := by
        show _ = _
        unfold declL
        rw [he]
      have HS := (show Hid (∀ W, Calls Tryz.prog 53 #[.string ⟨#[]⟩, .string ⟨#[32, 9, 10, 13, 63]⟩] W fun e w' => e = .returned (.bool false) ∧ W = w') from fun W => starts_nil _ W)
      clear h he hm
      go_enter Tryz.func27, Tryz.ntmps27
      go_wp2_with fail
      refine wp_scope_ahead 0 rfl ?_
      go_wp2_with fail
      refine HT.out.mono ?_
      rintro e w1 ⟨rfl, h1, h2⟩
      have c1 := cell_blk h1 0
      simp only [List.getElem?_toArray] at c1
      have H2 := (show Hid (Md (fun b => b = p) w w1) from h2)
      clear h1 h2
      go_wp2_with (go_at_call 53; refine (HS.out _).mono ?_; rintro e w' ⟨rfl, rfl⟩)
      go_step3
      refine ⟨rfl, ?_⟩
      go_wp2
      rw [Exit.noGoto_ret]
      go_wp2
      go_ret
      exact ⟨ret_bool (by rw [HD.out]; rfl), fun r hr => (by rw [HD.out] at hr; cases hr), H2.out⟩
    | cons c r' =>
      have HS := (show Hid (∀ W, Calls Tryz.prog 53 #[.string ⟨(c :: r').toArray⟩, .string ⟨#[32, 9, 10, 13, 63]⟩] W fun e w' => e = .returned (.bool (decide (wsB c = true ∨ c = 63))) ∧ W = w') from fun W => by
        have := starts_cons c r' ⟨#[32, 9, 10, 13, 63]⟩ W
        rw [← ws_mark]
        exact this)
      by_cases hc : wsB c = true ∨ c = 63
      · have HD : Hid (declL l = if (Lib.cut (c :: r') [63, 62]).2.2 then some (Lib.cut (c :: r') [63, 62]).2.1 else none) := by
          show _ = _
          unfold declL
          rw [he]
          simp only
          rw [if_pos hc]
        have HC := (show Hid (∀ W, Mx W → Calls Tryz.prog 54 #[.string ⟨(c :: r').toArray⟩, .string ⟨#[63, 62]⟩] W fun e w' => e = .returned (.tuple #[.string ⟨(Lib.cut (c :: r') [63, 62]).1.toArray⟩, .string ⟨(Lib.cut (c :: r') [63, 62]).2.1.toArray⟩, .bool (Lib.cut (c :: r') [63, 62]).2.2]) ∧ ∃ n, w' = W.drewN n) from fun W hW => by
          obtain ⟨m, h0⟩ := hW
          exact strings_Cut ⟨(c :: r').toArray⟩ ⟨#[63, 62]⟩ m W (by rw [mk_size]; simp only [List.length_cons] at hrl ⊢; omega) h0)
        have hM := hm
        rw [decide_eq_true hc] at HS
        clear h he hm hc
        generalize Lib.cut (c :: r') [63, 62] = X at *
        obtain ⟨x1, x2, x3⟩ := X
        cases x3
        all_goals
          go_enter Tryz.func27, Tryz.ntmps27
          go_wp2_with fail
          refine wp_scope_ahead 0 rfl ?_
          go_wp2_with fail
          refine HT.out.mono ?_
          rintro e w1 ⟨rfl, h1, h2⟩
          have c1 := cell_blk h1 0
          simp only [List.getElem?_toArray] at c1
          have hM1 := hM.md h2 hnp
          have H2 := (show Hid (Rd w1 p (c :: r') ∧ Md (fun b => b = p) w w1) from ⟨h1, h2⟩)
          clear h1 h2
          go_wp2_with (go_at_call 53; refine (HS.out _).mono ?_; rintro e w' ⟨rfl, rfl⟩)
          refine (HC.out _ hM1).mono ?_
          rintro e w2 ⟨rfl, n, rfl⟩
          have hB : Below w1.heap.size w1 (w1.drewN n) := below_drewN (Below.refl _ _) n
          have r2 := H2.out.1.keep (Md.ofBelow (F := fun _ => False) hB) (fun h => h)
          have m2 : Md (fun b => b = p) w (w1.drewN n) := H2.out.2.below hB
          have c2 := cell_blk r2 0
          have f2 := frozen_blk r2 0
          simp only [List.getElem?_toArray] at c2
          generalize w1.drewN n = w3 at *
          have H3 := (show Hid (Rd w3 p (c :: r') ∧ Md (fun b => b = p) w w3) from ⟨r2, m2⟩)
          clear hB r2 m2
        · go_wp2_with fail
          go_step3
          refine ⟨rfl, ?_⟩
          go_wp2
          rw [Exit.noGoto_ret]
          go_wp2
          go_ret
          exact ⟨ret_bool (by rw [HD.out]; rfl), fun r hr => (by rw [HD.out] at hr; cases hr), H3.out.2.set (.inl rfl) _ _⟩
        · go_wp2_with fail
          rw [Jmp_ret]
          go_wp2
          go_ret
          rw [HD.out]
          refine ⟨rfl, fun r hr => ?_, H3.out.2.set (.inl rfl) _ _⟩
          cases hr
          exact (set_blk H3.out.1 0 _).trans rfl
      · have HD : Hid (declL l = none) := by
          show _ = _
          unfold declL
          rw [he]
          simp only
          rw [if_neg hc]
        rw [decide_eq_false hc] at HS
        clear h he hm hc
        go_enter Tryz.func27, Tryz.ntmps27
        go_wp2_with fail
        refine wp_scope_ahead 0 rfl ?_
        go_wp2_with fail
        refine HT.out.mono ?_
        rintro e w1 ⟨rfl, h1, h2⟩
        have c1 := cell_blk h1 0
        simp only [List.getElem?_toArray] at c1
        have H2 := (show Hid (Md (fun b => b = p) w w1) from h2)
        clear h1 h2
        go_wp2_with (go_at_call 53; refine (HS.out _).mono ?_; rintro e w' ⟨rfl, rfl⟩)
        go_step3
        refine ⟨rfl, ?_⟩
        go_wp2
        rw [Exit.noGoto_ret]
        go_wp2
        go_ret
        exact ⟨ret_bool (by rw [HD.out]; rfl), fun r hr => (by rw [HD.out] at hr; cases hr), H2.out⟩
end Go.Proofs.YtohkocknpmnakaaGreatDoor

/-
  sig.Canonical.
-/
import Derived.Test.YtnmffehmjgknkaaGreatDoorRunQ
import Derived.Deep.Cut
namespace Go.Proofs.YtnmffehmjgknkaaGreatDoor
open Go.RowKit
open Ch (foldL fold_len escL uneV uneOk escL_len)

theorem own_of_below {w w' : World} {base e s n : Nat} {v : Value} {xs : List Value} (h : w.ownsRow base e s v n xs) (hb : Below w.heap.size w w') : w'.ownsRow base e s v n xs := own_md h (Md.ofBelow (F := fun _ => False) hb) (fun _ _ h => h)
theorem cell_three_new (w : World) (a b c : Value) (t : TypeId) : ∀ j u, [a, b, c][j]? = some u → (w.alloc (.cells #[a, b, c] t)).cell? ((⟨w.heap.size, 0, none⟩ : Addr).add j) = some u := by
  intro j u hj
  rw [Addr.add_lit, World.cell?_alloc_mark]
  simpa using hj
theorem three_one (x y z : ByteArray) : ∀ u ∈ [Value.string x, .string y, .string z], u.oneCell' = true := by
  intro u hu
  simp at hu
  rcases hu with rfl | rfl | rfl <;> rfl
theorem ownS_more3 {w : World} {base : Nat} {v : Value} {L : List ByteArray} {x y z : ByteArray} (h : w.ownsRow base 9 1 v (L.length + 3) (L.map Value.string ++ [Value.string x, .string y, .string z])) : OwnS w base v (L ++ [x, y, z]) := by
  rw [OwnS, List.length_append, List.map_append]
  exact h
set_option maxRecDepth 20000 in
set_option maxHeartbeats 4000000 in
theorem canon_t (m tg : List UInt8) (ha : Option Addr) (hs : List Hd) (hcap : Nat) (bv : Value) (sa : Option Addr) (sg : List (List UInt8)) (scap : Nat) (pl : List UInt8) (w : World)
    (hB : CnB m tg hs sg pl) (hH : Hdrs w ha hs) (hS : Strs w sa (toB sg)) (hsc : sg.length ≤ scap) (hM : Mx w) (hP : Px w) :
    Calls Tryz.prog 9 #[.agg #[.string ⟨m.toArray⟩, .string ⟨tg.toArray⟩, .slice ha hs.length hcap, bv], .slice sa sg.length scap, .string ⟨pl.toArray⟩, .bool true] w fun e w' => e = .returned (.tuple #[.string ⟨(cnV m tg hs sg pl true).toArray⟩, .int .i64 (cnE tg true)]) ∧ Below w.heap.size w w' := by
  have HI := (show Hid (CnB m tg hs sg pl ∧ sg.length ≤ scap ∧ (cnT m tg hs sg pl true).length ≤ 20000000000000 ∧ (Lib.join sg [59]).length ≤ 4194304) from ⟨hB, hsc, hB.cnT true⟩)
  have HT := (show Hid (cnT m tg hs sg pl true = Lib.join (cn0 m tg true ++ sg.map (lineL hs) ++ [[], Lib.join sg [59], pl]) [10]) from rfl)
  have htl := hB.tg
  obtain ⟨cv, hcv⟩ : ∃ cv, cv = cnV m tg hs sg pl true := ⟨_, rfl⟩
  obtain ⟨ce, hce⟩ : ∃ ce, ce = cnE tg true := ⟨_, rfl⟩
  obtain ⟨T, hTT⟩ : ∃ T, T = cnT m tg hs sg pl true := ⟨_, rfl⟩
  obtain ⟨PR, hPR⟩ : ∃ PR, PR = prL tg true := ⟨_, rfl⟩
  obtain ⟨pt, hpt⟩ : ∃ pt, pt = (Lib.cut tg [63]).1 := ⟨_, rfl⟩
  have HV := (show Hid (cv = (if uneOk pt && PR.all okP then T else []) ∧ ce = (if uneOk pt && PR.all okP then 0 else 331)) from ⟨by rw [hcv, cnV, cnOk, hPR, hpt, hTT], by rw [hce, cnE, cnOk, hPR, hpt]⟩)
  have H0 := (show Hid (cn0 m tg true = [m, escL true (uneV pt), cqL PR] ∧ tot PR ≤ 16777216 ∧ pt.length ≤ 4194304) from ⟨by rw [cn0, hPR, hpt], by rw [hPR]; have := tot_pr tg true; omega, by rw [hpt]; have := (cut_len tg [63]).1; omega⟩)
  rw [← hTT] at HT HI
  have HPRQ := (show Hid (PR = prL tg true) from hPR)
  have HPT := (show Hid (pt = (Lib.cut tg [63]).1) from hpt)
  rw [← hcv, ← hce]
  clear hcv hce hTT hPR hpt
  go_enter Tryz.func9, Tryz.ntmps9
  go_upto_region 1 with fail
  obtain ⟨W, hW⟩ : ∃ W, W = w.alloc (.cells #[.string ⟨m.toArray⟩, .string ⟨tg.toArray⟩, .slice ha hs.length hcap, bv] 25) := ⟨_, rfl⟩
  obtain ⟨A, hA⟩ : ∃ A, A = w.heap.size := ⟨_, rfl⟩
  have nA : W.heap[A]? = some (.cells #[.string ⟨m.toArray⟩, .string ⟨tg.toArray⟩, .slice ha hs.length hcap, bv] 25 (0, 0)) := by rw [hW, hA]; exact heap_alloc_new _ _
  have hbW : Below w.heap.size w W := by rw [hW]; exact (Below.refl _ w).alloc (Nat.le_refl _) _
  have hAW := blk_lt nA
  have HX := (show Hid (∀ w', Below W.heap.size W w' → w'.cell? ⟨A, 0, none⟩ = some (.string ⟨m.toArray⟩) ∧ w'.cell? ⟨A, 2, none⟩ = some (.slice ha hs.length hcap) ∧ Hdrs w' ha hs ∧ Strs w' sa (toB sg)) from fun w' hb =>
    ⟨(hb.cell (p := ⟨A, 0, none⟩) hAW).trans (by have := cell_blk nA 0; simpa using this), (hb.cell (p := ⟨A, 2, none⟩) hAW).trans (by have := cell_blk nA 2; simpa using this), (hH.below hbW (Nat.le_refl _)).below hb (Nat.le_refl _), (hS.below hbW (Nat.le_refl _)).below hb (Nat.le_refl _)⟩)
  have a1 : W.cell? ⟨A, 1, none⟩ = some (.string ⟨tg.toArray⟩) := by have := cell_blk nA 1; simpa using this
  have hMW : Mx W := hM.below hbW (Nat.le_refl _)
  have hPW : Px W := hP.below hbW (Nat.le_refl _)
  have HW := (show Hid (Below w.heap.size w W ∧ Px W) from ⟨hbW, hPW⟩)
  rw [← hW, ← hA]
  have HQ := (show Hid _ from query_any tg W (by omega) hMW)
  rw [← HPT.out] at HQ
  clear hH hS hsc hM hP hB hW hA nA hbW hAW hMW hPW
  go_wp2_with fail
  refine Calls.mono HQ.out ?_
  rintro e w1 ⟨v1, rfl, ho1, hb1⟩
  have HD := (show Hid _ from delete_any (qryL tg) v1 W.heap.size w1 ho1 (by have := tot_qry tg; have := tot_len (qryL tg); omega) (HW.out.2.below hb1 (Nat.le_refl _)) hb1.size HW.out.2.pos)
  have e1 : delL (qryL tg) = PR := by rw [HPRQ.out, prL, if_pos rfl]
  rw [e1] at HD
  have HB1 := (show Hid (Below W.heap.size W w1) from hb1)
  clear HQ a1 ho1 hb1 e1
  go_wp2_with fail
  refine Calls.mono HD.out ?_
  rintro e w2 ⟨v2, rfl, ho2, hb2⟩
  have hB2 := HB1.out.trans hb2
  clear HD hb2
  obtain ⟨a2, c2, rfl, hH2⟩ := own_hdrs ho2
  have H2 := (show Hid (Hdrs w2 a2 PR ∧ Below W.heap.size W w2) from ⟨hH2, hB2⟩)
  have C3 := (show Hid _ from une34 pt w2 (by have := H0.out.2.2; omega))
  clear ho2 hH2 hB2
  go_wp2_with fail
  refine Calls.mono C3.out ?_
  rintro e w3 ⟨rfl, hb3⟩
  have H3 := (show Hid (Hdrs w3 a2 PR ∧ Below W.heap.size W w3) from ⟨H2.out.1.below hb3 (Nat.le_refl _), H2.out.2.trans (hb3.mono H2.out.2.size)⟩)
  have C4 := (show Hid _ from canonq_any a2 PR c2 w3 H3.out.1 (by have := H0.out.2.1; omega))
  clear C3 hb3
  go_wp2_with fail
  refine Calls.mono C4.out ?_
  rintro e w4 ⟨rfl, hb4⟩
  have H4 := (show Hid (Below W.heap.size W w4) from H3.out.2.trans (hb4.mono H3.out.2.size))
  have HE := (show Hid (PR.all okP = true → cqV PR = cqL PR) from fun h => by rw [cqV, if_pos h])
  clear C4 hb4
  cases h1 : uneOk pt with
  | false =>
    have HF := (show Hid (cv = [] ∧ ce = 331) from by
      show cv = [] ∧ ce = 331
      have := HV.out
      rw [h1] at this
      simpa using this)
    clear h1 HE
    go_wp2
    go_ret2
    rw [HF.out.1, HF.out.2]
    exact ⟨rfl, HW.out.1.trans (H4.out.mono HW.out.1.size)⟩
  | true =>
    cases h2 : PR.all okP with
    | false =>
      have HF := (show Hid (cv = [] ∧ ce = 331) from by
        show cv = [] ∧ ce = 331
        have := HV.out
        rw [h1, h2] at this
        simpa using this)
      clear h1 h2 HE
      go_wp2
      go_ret2
      rw [HF.out.1, HF.out.2]
      exact ⟨rfl, HW.out.1.trans (H4.out.mono HW.out.1.size)⟩
    | true =>
      have HF := (show Hid (cv = T ∧ ce = 0) from by
        show cv = T ∧ ce = 0
        have := HV.out
        rw [h1, h2] at this
        simpa using this)
      rw [HE.out h2]
      have HL := (show Hid ((uneV pt).length ≤ 4194304) from by have := uneV_len pt; have := H0.out.2.2; show _ ≤ _; omega)
      have C5 := (show Hid (∀ W', Calls Tryz.prog 36 #[.string ⟨(uneV pt).toArray⟩, .bool true] W' fun e w' => e = .returned (.string ⟨(escL true (uneV pt)).toArray⟩) ∧ Below W'.heap.size W' w') from fun W' => esc36 (uneV pt) true W' (by have := HL.out; omega))
      obtain ⟨X0, X1, X2, X3⟩ := HX.out w4 H4.out
      clear h1 h2 HE HV
      generalize hq : cqL PR = cq at *
      generalize huv : uneV pt = uv at *
      generalize hes : escL true uv = es at *
      clear hq huv hes
      go_upto_region 8 with fail
      have HXX := (show Hid (∀ w', Below w4.heap.size w4 w' → w'.cell? ⟨A, 0, none⟩ = some (.string ⟨m.toArray⟩)) from fun w' hb => (HX.out w' (H4.out.trans (hb.mono H4.out.size))).1)
      refine wp_region_held_drew (S := fun w' => Below w4.heap.size w4 w' ∧ w'.cell? ⟨A, 0, none⟩ = some (.string ⟨m.toArray⟩)) (by kernel_rfl) (⟨(Below.refl _ w4).drew, X0⟩) (fun hHeld => ?_)
      refine wpAnyH_take (i := 0) (oi := { dst := some 43, op := Op.fieldAddr 25 (Operand.tmp 4) 0, type := 0, pos := "sig.go:64", after := #[], guard := none }) (v := ?_) rfl (by kernel_rfl) (by kernel_rfl) (by kernel_rfl) (fun _ _ _ h => h) (Or.inl ⟨by rfl, ?_⟩) (by assumption) ?_
      rotate_left
      · intro w hSw
        try dsimp only at hSw
        go_simp
        all_goals with_reducible rfl
      try simp only [Act.put, List.setIfInBounds_toArray, List.set_cons_zero, List.set_cons_succ]
      refine wpAnyH_take (i := 1) (oi := { dst := some 44, op := Op.load 9 (Operand.tmp 43), type := 9, pos := "sig.go:64", after := #[{ on := 0, ground := Ground.data }], guard := none }) (v := ?_) rfl (by kernel_rfl) (by kernel_rfl) (by kernel_rfl) (fun _ _ _ h => h) (Or.inl ⟨by rfl, ?_⟩) (by assumption) ?_
      rotate_left
      · intro w hSw
        try dsimp only at hSw
        go_simp
        all_goals with_reducible rfl
      try simp only [Act.put, List.setIfInBounds_toArray, List.set_cons_zero, List.set_cons_succ]
      refine wpAnyH_take (i := 2) (oi := { dst := some 45, op := Op.move (Operand.tmp 10), type := 9, pos := "sig.go:64", after := #[], guard := none }) (v := ?_) rfl (by kernel_rfl) (by kernel_rfl) (by kernel_rfl) (fun _ _ _ h => h) (Or.inl ⟨by rfl, ?_⟩) (by assumption) ?_
      rotate_left
      · intro w hSw
        try dsimp only at hSw
        go_simp
        all_goals with_reducible rfl
      try simp only [Act.put, List.setIfInBounds_toArray, List.set_cons_zero, List.set_cons_succ]
      refine wpAnyH_take (i := 4) (oi := { dst := some 47, op := Op.move (Operand.tmp 13), type := 9, pos := "sig.go:64", after := #[], guard := none }) (v := ?_) rfl (by kernel_rfl) (by kernel_rfl) (by kernel_rfl) (fun _ _ _ h => h) (Or.inl ⟨by rfl, ?_⟩) (by assumption) ?_
      rotate_left
      · intro w hSw
        try dsimp only at hSw
        go_simp
        all_goals with_reducible rfl
      try simp only [Act.put, List.setIfInBounds_toArray, List.set_cons_zero, List.set_cons_succ]
      refine wpAnyH_ready (rs := [3]) (by kernel_rfl) (by simp) ?_
      refine AllReadyH.cons (o := { dst := some 46, op := Op.call { callee := Callee.value (Operand.func 36), args := #[Operand.tmp 45, Operand.const (Value.bool true)], argTypes := #[9, 4] }, type := 9, pos := "sig.go:64", after := #[{ on := 2, ground := Ground.data }], guard := none }) rfl (fun K0 hK => ?_) AllReadyH.nil
      go_simp
      go_at_call 36
      refine Calls.mono (C5.out _) ?_
      rintro e w5 ⟨rfl, hb5⟩
      have hb5 : Below w4.heap.size w4 w5 := (Below.refl w4.heap.size w4).drew.trans hb5
      refine hK.out _ _ ⟨hb5, HXX.out w5 hb5⟩ (fun hHeld => ?_)
      clear hK K0
      try simp only [Act.put, List.setIfInBounds_toArray, List.set_cons_zero, List.set_cons_succ]
      refine wpAnyH_ready (rs := [5]) (by kernel_rfl) (by simp) ?_
      refine AllReadyH.cons (o := { dst := some 48, op := Op.buildSlice 26 3 #[(0, Operand.tmp 44), (1, Operand.tmp 46), (2, Operand.tmp 47)], type := 26, pos := "sig.go:64", after := #[{ on := 1, ground := Ground.data }, { on := 3, ground := Ground.data }, { on := 4, ground := Ground.data }], guard := none }) rfl (fun K0 hK => ?_) AllReadyH.nil
      go_simp
      refine hK.out _ _ ⟨hb5.alloc hb5.size _, HXX.out _ (hb5.alloc hb5.size _)⟩ (fun hHeld => ?_)
      clear hK K0
      try simp only [Act.put, List.setIfInBounds_toArray, List.set_cons_zero, List.set_cons_succ]
      refine wpAnyH_take (i := 6) (oi := { dst := some 15, op := Op.assign (Operand.tmp 48), type := 26, pos := "sig.go:64", after := #[{ on := 5, ground := Ground.data }, { on := 3, ground := Ground.chain }, { on := 0, ground := Ground.phase }, { on := 1, ground := Ground.phase }, { on := 2, ground := Ground.phase }, { on := 3, ground := Ground.phase }, { on := 4, ground := Ground.phase }, { on := 5, ground := Ground.phase }], guard := none }) (v := ?_) rfl (by kernel_rfl) (by kernel_rfl) (by kernel_rfl) (fun _ _ _ h => h) (Or.inl ⟨by rfl, ?_⟩) (by assumption) ?_
      rotate_left
      · intro w hSw
        try dsimp only at hSw
        go_simp
        all_goals with_reducible rfl
      try simp only [Act.put, List.setIfInBounds_toArray, List.set_cons_zero, List.set_cons_succ]
      refine wpAnyH_done (by kernel_rfl) ?_ _
      obtain ⟨g, hg⟩ : ∃ g, g = w5.heap.size := ⟨_, rfl⟩
      obtain ⟨W6, hW6⟩ : ∃ W6, W6 = w5.alloc (.cells #[.string ⟨m.toArray⟩, .string ⟨es.toArray⟩, .string ⟨cq.toArray⟩] 9) := ⟨_, rfl⟩
      have H6 := (show Hid (OwnS W6 g (.slice (some ⟨g, 0, none⟩) 3 3) (toB [m, es, cq]) ∧ Below W.heap.size W W6 ∧ g ≤ W6.heap.size ∧ W.heap.size ≤ g) from by
        have hb45 := H4.out.trans (hb5.mono H4.out.size)
        rw [hW6, hg]
        exact ⟨World.ownsRow_lit w5 #[.string ⟨m.toArray⟩, .string ⟨es.toArray⟩, .string ⟨cq.toArray⟩] 3 (Nat.le_refl _) (by unfold maxLen; omega) rfl, hb45.alloc hb45.size _, by simp, hb45.size⟩)
      have H00 := (show Hid (cn0 m tg true = [m, es, cq]) from H0.out.1)
      clear hHeld hb5 X0 X1 X2 X3 C5 HXX H0
      go_wp2_with fail
      rw [← hg, ← hW6]
      clear hW6 hg
      obtain ⟨j0, ji, jz0, jz1, jz2⟩ := info_parts info9
      have hsgl : sg.length ≤ 4194304 := by have := HI.out.1.sg; omega
      go_loopw [15, 51] (fun v i wr => ∃ k : Nat, k ≤ sg.length ∧ i = .int .i64 k ∧ OwnS wr g v (toB ([m, es, cq] ++ (sg.take k).map (lineL hs))) ∧ Below g W6 wr) (fun _ i _ => sg.length - (intOf i).toNat)
      case atStart => exact ⟨0, Nat.zero_le _, rfl, by simpa using H6.out.1, Below.refl _ _⟩
      case round =>
        obtain ⟨k, hk, rfl, hown, hb⟩ := hrel
        have hsz := hb.size
        have hbW : Below W.heap.size W wr := H6.out.2.1.trans (hb.mono H6.out.2.2.2)
        have HR := (show Hid (OwnS wr g u15 (toB ([m, es, cq] ++ (sg.take k).map (lineL hs))) ∧ Below g W6 wr ∧ Below W.heap.size W wr) from ⟨hown, hb, hbW⟩)
        obtain ⟨X0, X1, X2, X3⟩ := HX.out wr hbW
        by_cases hlt : k < sg.length
        · rcases X3 with hnil | ⟨b, off, rfl, hbs, hc⟩
          · have := congrArg List.length hnil
            rw [toB_len] at this
            simp at this
            rw [this] at hlt
            simp at hlt
          · have c1 := hc k (by rw [toB_len]; exact hlt)
            rw [toB_at] at c1
            have hxl := lens_mem (List.getElem_mem hlt)
            have hsl := HI.out.1.sg
            have hts := HI.out.1.hs
            have HT2 := (show Hid (toB ([m, es, cq] ++ (sg.take (k + 1)).map (lineL hs)) = toB ([m, es, cq] ++ (sg.take k).map (lineL hs)) ++ [⟨(lineL hs sg[k]).toArray⟩]) from by
              show _ = _
              rw [List.take_succ_eq_append_getElem hlt, List.map_append, ← List.append_assoc, toB, toB, List.map_append]
              rfl)
            have htl2 : (toB ([m, es, cq] ++ (sg.take k).map (lineL hs))).length = k + 3 := by rw [toB_len, List.length_append, List.length_map, List.length_take]; simp; omega
            generalize sg[k] = x at *
            have hcl := cvL_len hs x
            have HP := (show Hid (((⟨x.toArray⟩ : ByteArray) ++ ⟨#[58]⟩ ++ ⟨(cvL hs x).toArray⟩) = ⟨(lineL hs x).toArray⟩) from by
              show _ = _
              apply ByteArray.ext
              simp [lineL])
            have C6 := (show Hid _ from cvals_any ha hs hcap x wr X2 (by omega))
            generalize cvL hs x = cx at *
            have hki : (k : Int) < (sg.length : Int) := by omega
            have hkk : (0 : Int) ≤ (k : Int) := by omega
            have q1 : ¬ 9223372036854775807 < x.length + 1 := by omega
            have q2 : ¬ 9223372036854775807 < x.length + 1 + cx.length := by omega
            clear hown hb hbW X0 X2 hc
            go_wp2_with fail
            refine Calls.mono C6.out ?_
            rintro e w7 ⟨rfl, hb7⟩
            have H7 := (show Hid (OwnS w7 g u15 (toB ([m, es, cq] ++ (sg.take k).map (lineL hs))) ∧ Below g W6 w7) from ⟨own_of_below HR.out.1 hb7, HR.out.2.1.trans (hb7.mono (by have := H6.out.2.2.1; omega))⟩)
            have hsz7 := H7.out.2.size
            have hg6 := H6.out.2.2.1
            clear C6 hb7 X1 c1
            go_wp2_with (at_builtin; refine wpList_append_own _ rfl (.tmp 55) (.tmp 63) 26 rfl g 9 j0 (.string ⟨#[]⟩) 1 16 Tryz.underlying26 ji jz0 jz1 jz2 rfl (by decide) _ _ _ rfl (World.ownsRow.alloc H7.out.1 _) ⟨w7.heap.size, 0, none⟩ 1 1 [.string ((⟨x.toArray⟩ : ByteArray) ++ ⟨#[58]⟩ ++ ⟨cx.toArray⟩)] rfl rfl (cell_one_new _ _ _) (one_one _ rfl) (by unfold maxLen; omega) (by omega) (by simp; omega) ?_; intro v1' w1' hown1 hgrow1 _)
            have HN := (show Hid (OwnS w1' g v1' (toB ([m, es, cq] ++ (sg.take (k + 1)).map (lineL hs))) ∧ Below g W6 w1') from by
              refine ⟨?_, (H7.out.2.alloc (by omega) _).grown hgrow1 (by simp; omega) (fun j hj => (World.ownsRow.lt H7.out.1 j hj).1)⟩
              rw [HT2.out]
              rw [HP.out] at hown1
              exact ownS_more hown1)
            clear hown1 hgrow1
            go_wp2
            go_roundw
            case rel => exact ⟨k + 1, by omega, by go_num, HN.out.1, HN.out.2⟩
            case measure => simp [intOf]; omega
        · obtain rfl : k = sg.length := by omega
          rw [List.take_length] at HR
          have C7 := (show Hid _ from joinS38 sa scap sg [59] wr X3 HI.out.2.1 (by omega) (by have := HI.out.2.2.2; omega))
          have htl3 : (toB ([m, es, cq] ++ sg.map (lineL hs))).length = sg.length + 3 := by rw [toB_len, List.length_append, List.length_map]; simp; omega
          clear hown hb hbW X0 X1 X2 X3
          go_wp2_with fail
          refine Calls.mono C7.out ?_
          rintro e w8 ⟨rfl, hb8⟩
          have H8 := (show Hid (OwnS w8 g u15 (toB ([m, es, cq] ++ sg.map (lineL hs))) ∧ Below g W6 w8) from ⟨own_of_below HR.out.1 hb8, HR.out.2.1.trans (hb8.mono (by have := H6.out.2.2.1; omega))⟩)
          have hsz8 := H8.out.2.size
          have hg6 := H6.out.2.2.1
          clear C7 hb8
          generalize Lib.join sg [59] = js at *
          go_wp2_with (at_builtin; refine wpList_append_own _ rfl (.tmp 66) (.tmp 70) 26 rfl g 9 j0 (.string ⟨#[]⟩) 1 16 Tryz.underlying26 ji jz0 jz1 jz2 rfl (by decide) _ _ _ rfl (World.ownsRow.alloc H8.out.1 _) ⟨w8.heap.size, 0, none⟩ 3 3 [.string ⟨#[]⟩, .string ⟨js.toArray⟩, .string ⟨pl.toArray⟩] rfl rfl (cell_three_new _ _ _ _ _) (three_one _ _ _) (by unfold maxLen; omega) (by omega) (by simp; omega) ?_; intro v9 w9 hown9 hgrow9 _)
          have HLL := (show Hid (T = Lib.join ([m, es, cq] ++ sg.map (lineL hs) ++ [[], js, pl]) [10]) from by rw [← H00.out]; exact HT.out)
          have H9 := (show Hid (OwnS w9 g v9 (toB ([m, es, cq] ++ sg.map (lineL hs) ++ [[], js, pl])) ∧ Below g W6 w9) from by
            refine ⟨?_, (H8.out.2.alloc (by omega) _).grown hgrow9 (by simp; omega) (fun j hj => (World.ownsRow.lt H8.out.1 j hj).1)⟩
            have e : toB ([m, es, cq] ++ sg.map (lineL hs) ++ [[], js, pl]) = toB ([m, es, cq] ++ sg.map (lineL hs)) ++ [⟨#[]⟩, ⟨js.toArray⟩, ⟨pl.toArray⟩] := by
              rw [toB, toB, List.map_append]
              rfl
            rw [e]
            exact ownS_more3 hown9)
          have C9 := (show Hid _ from join38 v9 g ([m, es, cq] ++ sg.map (lineL hs) ++ [[], js, pl]) [10] w9 H9.out.1 (by simp; omega) (by rw [← HLL.out]; have := HI.out.2.2.1; omega))
          rw [← HLL.out] at C9
          have HB9 := (show Hid (Below w.heap.size w w9 ∧ w.heap.size ≤ w9.heap.size) from by
            have hz := HW.out.1.trans ((H6.out.2.1.trans (H9.out.2.mono H6.out.2.2.2)).mono HW.out.1.size)
            exact ⟨hz, hz.size⟩)
          clear hown9 hgrow9 H9
          go_wp2_with fail
          refine Calls.mono C9.out ?_
          rintro e w10 ⟨rfl, hb10⟩
          have HB10 := (show Hid (Below w.heap.size w w10) from HB9.out.1.trans (hb10.mono HB9.out.2))
          clear C9 hb10
          go_wp2
          go_ret2
          rw [HF.out.1, HF.out.2]
          exact ⟨rfl, HB10.out⟩
set_option maxRecDepth 20000 in
set_option maxHeartbeats 4000000 in
theorem canon_f (m tg : List UInt8) (ha : Option Addr) (hs : List Hd) (hcap : Nat) (bv : Value) (sa : Option Addr) (sg : List (List UInt8)) (scap : Nat) (pl : List UInt8) (w : World)
    (hB : CnB m tg hs sg pl) (hH : Hdrs w ha hs) (hS : Strs w sa (toB sg)) (hsc : sg.length ≤ scap) (hM : Mx w) (hP : Px w) :
    Calls Tryz.prog 9 #[.agg #[.string ⟨m.toArray⟩, .string ⟨tg.toArray⟩, .slice ha hs.length hcap, bv], .slice sa sg.length scap, .string ⟨pl.toArray⟩, .bool false] w fun e w' => e = .returned (.tuple #[.string ⟨(cnV m tg hs sg pl false).toArray⟩, .int .i64 (cnE tg false)]) ∧ Below w.heap.size w w' := by
  have HI := (show Hid (CnB m tg hs sg pl ∧ sg.length ≤ scap ∧ (cnT m tg hs sg pl false).length ≤ 20000000000000 ∧ (Lib.join sg [59]).length ≤ 4194304) from ⟨hB, hsc, hB.cnT false⟩)
  have HT := (show Hid (cnT m tg hs sg pl false = Lib.join (cn0 m tg false ++ sg.map (lineL hs) ++ [[], Lib.join sg [59], pl]) [10]) from rfl)
  have htl := hB.tg
  obtain ⟨cv, hcv⟩ : ∃ cv, cv = cnV m tg hs sg pl false := ⟨_, rfl⟩
  obtain ⟨ce, hce⟩ : ∃ ce, ce = cnE tg false := ⟨_, rfl⟩
  obtain ⟨T, hTT⟩ : ∃ T, T = cnT m tg hs sg pl false := ⟨_, rfl⟩
  obtain ⟨PR, hPR⟩ : ∃ PR, PR = prL tg false := ⟨_, rfl⟩
  obtain ⟨pt, hpt⟩ : ∃ pt, pt = (Lib.cut tg [63]).1 := ⟨_, rfl⟩
  have HV := (show Hid (cv = (if uneOk pt && PR.all okP then T else []) ∧ ce = (if uneOk pt && PR.all okP then 0 else 331)) from ⟨by rw [hcv, cnV, cnOk, hPR, hpt, hTT], by rw [hce, cnE, cnOk, hPR, hpt]⟩)
  have H0 := (show Hid (cn0 m tg false = [m, escL true (uneV pt), cqL PR] ∧ tot PR ≤ 16777216 ∧ pt.length ≤ 4194304) from ⟨by rw [cn0, hPR, hpt], by rw [hPR]; have := tot_pr tg false; omega, by rw [hpt]; have := (cut_len tg [63]).1; omega⟩)
  rw [← hTT] at HT HI
  have HPRQ := (show Hid (PR = prL tg false) from hPR)
  have HPT := (show Hid (pt = (Lib.cut tg [63]).1) from hpt)
  rw [← hcv, ← hce]
  clear hcv hce hTT hPR hpt
  go_enter Tryz.func9, Tryz.ntmps9
  go_upto_region 1 with fail
  obtain ⟨W, hW⟩ : ∃ W, W = w.alloc (.cells #[.string ⟨m.toArray⟩, .string ⟨tg.toArray⟩, .slice ha hs.length hcap, bv] 25) := ⟨_, rfl⟩
  obtain ⟨A, hA⟩ : ∃ A, A = w.heap.size := ⟨_, rfl⟩
  have nA : W.heap[A]? = some (.cells #[.string ⟨m.toArray⟩, .string ⟨tg.toArray⟩, .slice ha hs.length hcap, bv] 25 (0, 0)) := by rw [hW, hA]; exact heap_alloc_new _ _
  have hbW : Below w.heap.size w W := by rw [hW]; exact (Below.refl _ w).alloc (Nat.le_refl _) _
  have hAW := blk_lt nA
  have HX := (show Hid (∀ w', Below W.heap.size W w' → w'.cell? ⟨A, 0, none⟩ = some (.string ⟨m.toArray⟩) ∧ w'.cell? ⟨A, 2, none⟩ = some (.slice ha hs.length hcap) ∧ Hdrs w' ha hs ∧ Strs w' sa (toB sg)) from fun w' hb =>
    ⟨(hb.cell (p := ⟨A, 0, none⟩) hAW).trans (by have := cell_blk nA 0; simpa using this), (hb.cell (p := ⟨A, 2, none⟩) hAW).trans (by have := cell_blk nA 2; simpa using this), (hH.below hbW (Nat.le_refl _)).below hb (Nat.le_refl _), (hS.below hbW (Nat.le_refl _)).below hb (Nat.le_refl _)⟩)
  have a1 : W.cell? ⟨A, 1, none⟩ = some (.string ⟨tg.toArray⟩) := by have := cell_blk nA 1; simpa using this
  have hMW : Mx W := hM.below hbW (Nat.le_refl _)
  have hPW : Px W := hP.below hbW (Nat.le_refl _)
  have HW := (show Hid (Below w.heap.size w W ∧ Px W) from ⟨hbW, hPW⟩)
  rw [← hW, ← hA]
  have HQ := (show Hid _ from query_any tg W (by omega) hMW)
  rw [← HPT.out] at HQ
  clear hH hS hsc hM hP hB hW hA nA hbW hAW hMW hPW
  go_wp2_with fail
  refine Calls.mono HQ.out ?_
  rintro e w1 ⟨v1, rfl, ho1, hb1⟩
  have e1 : qryL tg = PR := by rw [HPRQ.out, prL, if_neg (by simp)]
  rw [e1] at ho1
  obtain ⟨w2, hw2⟩ : ∃ w2, w2 = w1 := ⟨_, rfl⟩
  obtain ⟨v2, hv2⟩ : ∃ v2, v2 = v1 := ⟨_, rfl⟩
  rw [← hw2, ← hv2] at ho1
  rw [← hw2] at hb1
  rw [← hw2, ← hv2]
  have ho2 := ho1
  have hB2 := hb1
  clear HQ a1 ho1 hb1 e1 hw2 hv2
  obtain ⟨a2, c2, rfl, hH2⟩ := own_hdrs ho2
  have H2 := (show Hid (Hdrs w2 a2 PR ∧ Below W.heap.size W w2) from ⟨hH2, hB2⟩)
  have C3 := (show Hid _ from une34 pt w2 (by have := H0.out.2.2; omega))
  clear ho2 hH2 hB2
  go_wp2_with fail
  refine Calls.mono C3.out ?_
  rintro e w3 ⟨rfl, hb3⟩
  have H3 := (show Hid (Hdrs w3 a2 PR ∧ Below W.heap.size W w3) from ⟨H2.out.1.below hb3 (Nat.le_refl _), H2.out.2.trans (hb3.mono H2.out.2.size)⟩)
  have C4 := (show Hid _ from canonq_any a2 PR c2 w3 H3.out.1 (by have := H0.out.2.1; omega))
  clear C3 hb3
  go_wp2_with fail
  refine Calls.mono C4.out ?_
  rintro e w4 ⟨rfl, hb4⟩
  have H4 := (show Hid (Below W.heap.size W w4) from H3.out.2.trans (hb4.mono H3.out.2.size))
  have HE := (show Hid (PR.all okP = true → cqV PR = cqL PR) from fun h => by rw [cqV, if_pos h])
  clear C4 hb4
  cases h1 : uneOk pt with
  | false =>
    have HF := (show Hid (cv = [] ∧ ce = 331) from by
      show cv = [] ∧ ce = 331
      have := HV.out
      rw [h1] at this
      simpa using this)
    clear h1 HE
    go_wp2
    go_ret2
    rw [HF.out.1, HF.out.2]
    exact ⟨rfl, HW.out.1.trans (H4.out.mono HW.out.1.size)⟩
  | true =>
    cases h2 : PR.all okP with
    | false =>
      have HF := (show Hid (cv = [] ∧ ce = 331) from by
        show cv = [] ∧ ce = 331
        have := HV.out
        rw [h1, h2] at this
        simpa using this)
      clear h1 h2 HE
      go_wp2
      go_ret2
      rw [HF.out.1, HF.out.2]
      exact ⟨rfl, HW.out.1.trans (H4.out.mono HW.out.1.size)⟩
    | true =>
      have HF := (show Hid (cv = T ∧ ce = 0) from by
        show cv = T ∧ ce = 0
        have := HV.out
        rw [h1, h2] at this
        simpa using this)
      rw [HE.out h2]
      have HL := (show Hid ((uneV pt).length ≤ 4194304) from by have := uneV_len pt; have := H0.out.2.2; show _ ≤ _; omega)
      have C5 := (show Hid (∀ W', Calls Tryz.prog 36 #[.string ⟨(uneV pt).toArray⟩, .bool true] W' fun e w' => e = .returned (.string ⟨(escL true (uneV pt)).toArray⟩) ∧ Below W'.heap.size W' w') from fun W' => esc36 (uneV pt) true W' (by have := HL.out; omega))
      obtain ⟨X0, X1, X2, X3⟩ := HX.out w4 H4.out
      clear h1 h2 HE HV
      generalize hq : cqL PR = cq at *
      generalize huv : uneV pt = uv at *
      generalize hes : escL true uv = es at *
      clear hq huv hes
      go_upto_region 8 with fail
      have HXX := (show Hid (∀ w', Below w4.heap.size w4 w' → w'.cell? ⟨A, 0, none⟩ = some (.string ⟨m.toArray⟩)) from fun w' hb => (HX.out w' (H4.out.trans (hb.mono H4.out.size))).1)
      refine wp_region_held_drew (S := fun w' => Below w4.heap.size w4 w' ∧ w'.cell? ⟨A, 0, none⟩ = some (.string ⟨m.toArray⟩)) (by kernel_rfl) (⟨(Below.refl _ w4).drew, X0⟩) (fun hHeld => ?_)
      refine wpAnyH_take (i := 0) (oi := { dst := some 43, op := Op.fieldAddr 25 (Operand.tmp 4) 0, type := 0, pos := "sig.go:64", after := #[], guard := none }) (v := ?_) rfl (by kernel_rfl) (by kernel_rfl) (by kernel_rfl) (fun _ _ _ h => h) (Or.inl ⟨by rfl, ?_⟩) (by assumption) ?_
      rotate_left
      · intro w hSw
        try dsimp only at hSw
        go_simp
        all_goals with_reducible rfl
      try simp only [Act.put, List.setIfInBounds_toArray, List.set_cons_zero, List.set_cons_succ]
      refine wpAnyH_take (i := 1) (oi := { dst := some 44, op := Op.load 9 (Operand.tmp 43), type := 9, pos := "sig.go:64", after := #[{ on := 0, ground := Ground.data }], guard := none }) (v := ?_) rfl (by kernel_rfl) (by kernel_rfl) (by kernel_rfl) (fun _ _ _ h => h) (Or.inl ⟨by rfl, ?_⟩) (by assumption) ?_
      rotate_left
      · intro w hSw
        try dsimp only at hSw
        go_simp
        all_goals with_reducible rfl
      try simp only [Act.put, List.setIfInBounds_toArray, List.set_cons_zero, List.set_cons_succ]
      refine wpAnyH_take (i := 2) (oi := { dst := some 45, op := Op.move (Operand.tmp 10), type := 9, pos := "sig.go:64", after := #[], guard := none }) (v := ?_) rfl (by kernel_rfl) (by kernel_rfl) (by kernel_rfl) (fun _ _ _ h => h) (Or.inl ⟨by rfl, ?_⟩) (by assumption) ?_
      rotate_left
      · intro w hSw
        try dsimp only at hSw
        go_simp
        all_goals with_reducible rfl
      try simp only [Act.put, List.setIfInBounds_toArray, List.set_cons_zero, List.set_cons_succ]
      refine wpAnyH_take (i := 4) (oi := { dst := some 47, op := Op.move (Operand.tmp 13), type := 9, pos := "sig.go:64", after := #[], guard := none }) (v := ?_) rfl (by kernel_rfl) (by kernel_rfl) (by kernel_rfl) (fun _ _ _ h => h) (Or.inl ⟨by rfl, ?_⟩) (by assumption) ?_
      rotate_left
      · intro w hSw
        try dsimp only at hSw
        go_simp
        all_goals with_reducible rfl
      try simp only [Act.put, List.setIfInBounds_toArray, List.set_cons_zero, List.set_cons_succ]
      refine wpAnyH_ready (rs := [3]) (by kernel_rfl) (by simp) ?_
      refine AllReadyH.cons (o := { dst := some 46, op := Op.call { callee := Callee.value (Operand.func 36), args := #[Operand.tmp 45, Operand.const (Value.bool true)], argTypes := #[9, 4] }, type := 9, pos := "sig.go:64", after := #[{ on := 2, ground := Ground.data }], guard := none }) rfl (fun K0 hK => ?_) AllReadyH.nil
      go_simp
      go_at_call 36
      refine Calls.mono (C5.out _) ?_
      rintro e w5 ⟨rfl, hb5⟩
      have hb5 : Below w4.heap.size w4 w5 := (Below.refl w4.heap.size w4).drew.trans hb5
      refine hK.out _ _ ⟨hb5, HXX.out w5 hb5⟩ (fun hHeld => ?_)
      clear hK K0
      try simp only [Act.put, List.setIfInBounds_toArray, List.set_cons_zero, List.set_cons_succ]
      refine wpAnyH_ready (rs := [5]) (by kernel_rfl) (by simp) ?_
      refine AllReadyH.cons (o := { dst := some 48, op := Op.buildSlice 26 3 #[(0, Operand.tmp 44), (1, Operand.tmp 46), (2, Operand.tmp 47)], type := 26, pos := "sig.go:64", after := #[{ on := 1, ground := Ground.data }, { on := 3, ground := Ground.data }, { on := 4, ground := Ground.data }], guard := none }) rfl (fun K0 hK => ?_) AllReadyH.nil
      go_simp
      refine hK.out _ _ ⟨hb5.alloc hb5.size _, HXX.out _ (hb5.alloc hb5.size _)⟩ (fun hHeld => ?_)
      clear hK K0
      try simp only [Act.put, List.setIfInBounds_toArray, List.set_cons_zero, List.set_cons_succ]
      refine wpAnyH_take (i := 6) (oi := { dst := some 15, op := Op.assign (Operand.tmp 48), type := 26, pos := "sig.go:64", after := #[{ on := 5, ground := Ground.data }, { on := 3, ground := Ground.chain }, { on := 0, ground := Ground.phase }, { on := 1, ground := Ground.phase }, { on := 2, ground := Ground.phase }, { on := 3, ground := Ground.phase }, { on := 4, ground := Ground.phase }, { on := 5, ground := Ground.phase }], guard := none }) (v := ?_) rfl (by kernel_rfl) (by kernel_rfl) (by kernel_rfl) (fun _ _ _ h => h) (Or.inl ⟨by rfl, ?_⟩) (by assumption) ?_
      rotate_left
      · intro w hSw
        try dsimp only at hSw
        go_simp
        all_goals with_reducible rfl
      try simp only [Act.put, List.setIfInBounds_toArray, List.set_cons_zero, List.set_cons_succ]
      refine wpAnyH_done (by kernel_rfl) ?_ _
      obtain ⟨g, hg⟩ : ∃ g, g = w5.heap.size := ⟨_, rfl⟩
      obtain ⟨W6, hW6⟩ : ∃ W6, W6 = w5.alloc (.cells #[.string ⟨m.toArray⟩, .string ⟨es.toArray⟩, .string ⟨cq.toArray⟩] 9) := ⟨_, rfl⟩
      have H6 := (show Hid (OwnS W6 g (.slice (some ⟨g, 0, none⟩) 3 3) (toB [m, es, cq]) ∧ Below W.heap.size W W6 ∧ g ≤ W6.heap.size ∧ W.heap.size ≤ g) from by
        have hb45 := H4.out.trans (hb5.mono H4.out.size)
        rw [hW6, hg]
        exact ⟨World.ownsRow_lit w5 #[.string ⟨m.toArray⟩, .string ⟨es.toArray⟩, .string ⟨cq.toArray⟩] 3 (Nat.le_refl _) (by unfold maxLen; omega) rfl, hb45.alloc hb45.size _, by simp, hb45.size⟩)
      have H00 := (show Hid (cn0 m tg false = [m, es, cq]) from H0.out.1)
      clear hHeld hb5 X0 X1 X2 X3 C5 HXX H0
      go_wp2_with fail
      rw [← hg, ← hW6]
      clear hW6 hg
      obtain ⟨j0, ji, jz0, jz1, jz2⟩ := info_parts info9
      have hsgl : sg.length ≤ 4194304 := by have := HI.out.1.sg; omega
      go_loopw [15, 51] (fun v i wr => ∃ k : Nat, k ≤ sg.length ∧ i = .int .i64 k ∧ OwnS wr g v (toB ([m, es, cq] ++ (sg.take k).map (lineL hs))) ∧ Below g W6 wr) (fun _ i _ => sg.length - (intOf i).toNat)
      case atStart => exact ⟨0, Nat.zero_le _, rfl, by simpa using H6.out.1, Below.refl _ _⟩
      case round =>
        obtain ⟨k, hk, rfl, hown, hb⟩ := hrel
        have hsz := hb.size
        have hbW : Below W.heap.size W wr := H6.out.2.1.trans (hb.mono H6.out.2.2.2)
        have HR := (show Hid (OwnS wr g u15 (toB ([m, es, cq] ++ (sg.take k).map (lineL hs))) ∧ Below g W6 wr ∧ Below W.heap.size W wr) from ⟨hown, hb, hbW⟩)
        obtain ⟨X0, X1, X2, X3⟩ := HX.out wr hbW
        by_cases hlt : k < sg.length
        · rcases X3 with hnil | ⟨b, off, rfl, hbs, hc⟩
          · have := congrArg List.length hnil
            rw [toB_len] at this
            simp at this
            rw [this] at hlt
            simp at hlt
          · have c1 := hc k (by rw [toB_len]; exact hlt)
            rw [toB_at] at c1
            have hxl := lens_mem (List.getElem_mem hlt)
            have hsl := HI.out.1.sg
            have hts := HI.out.1.hs
            have HT2 := (show Hid (toB ([m, es, cq] ++ (sg.take (k + 1)).map (lineL hs)) = toB ([m, es, cq] ++ (sg.take k).map (lineL hs)) ++ [⟨(lineL hs sg[k]).toArray⟩]) from by
              show _ = _
              rw [List.take_succ_eq_append_getElem hlt, List.map_append, ← List.append_assoc, toB, toB, List.map_append]
              rfl)
            have htl2 : (toB ([m, es, cq] ++ (sg.take k).map (lineL hs))).length = k + 3 := by rw [toB_len, List.length_append, List.length_map, List.length_take]; simp; omega
            generalize sg[k] = x at *
            have hcl := cvL_len hs x
            have HP := (show Hid (((⟨x.toArray⟩ : ByteArray) ++ ⟨#[58]⟩ ++ ⟨(cvL hs x).toArray⟩) = ⟨(lineL hs x).toArray⟩) from by
              show _ = _
              apply ByteArray.ext
              simp [lineL])
            have C6 := (show Hid _ from cvals_any ha hs hcap x wr X2 (by omega))
            generalize cvL hs x = cx at *
            have hki : (k : Int) < (sg.length : Int) := by omega
            have hkk : (0 : Int) ≤ (k : Int) := by omega
            have q1 : ¬ 9223372036854775807 < x.length + 1 := by omega
            have q2 : ¬ 9223372036854775807 < x.length + 1 + cx.length := by omega
            clear hown hb hbW X0 X2 hc
            go_wp2_with fail
            refine Calls.mono C6.out ?_
            rintro e w7 ⟨rfl, hb7⟩
            have H7 := (show Hid (OwnS w7 g u15 (toB ([m, es, cq] ++ (sg.take k).map (lineL hs))) ∧ Below g W6 w7) from ⟨own_of_below HR.out.1 hb7, HR.out.2.1.trans (hb7.mono (by have := H6.out.2.2.1; omega))⟩)
            have hsz7 := H7.out.2.size
            have hg6 := H6.out.2.2.1
            clear C6 hb7 X1 c1
            go_wp2_with (at_builtin; refine wpList_append_own _ rfl (.tmp 55) (.tmp 63) 26 rfl g 9 j0 (.string ⟨#[]⟩) 1 16 Tryz.underlying26 ji jz0 jz1 jz2 rfl (by decide) _ _ _ rfl (World.ownsRow.alloc H7.out.1 _) ⟨w7.heap.size, 0, none⟩ 1 1 [.string ((⟨x.toArray⟩ : ByteArray) ++ ⟨#[58]⟩ ++ ⟨cx.toArray⟩)] rfl rfl (cell_one_new _ _ _) (one_one _ rfl) (by unfold maxLen; omega) (by omega) (by simp; omega) ?_; intro v1' w1' hown1 hgrow1 _)
            have HN := (show Hid (OwnS w1' g v1' (toB ([m, es, cq] ++ (sg.take (k + 1)).map (lineL hs))) ∧ Below g W6 w1') from by
              refine ⟨?_, (H7.out.2.alloc (by omega) _).grown hgrow1 (by simp; omega) (fun j hj => (World.ownsRow.lt H7.out.1 j hj).1)⟩
              rw [HT2.out]
              rw [HP.out] at hown1
              exact ownS_more hown1)
            clear hown1 hgrow1
            go_wp2
            go_roundw
            case rel => exact ⟨k + 1, by omega, by go_num, HN.out.1, HN.out.2⟩
            case measure => simp [intOf]; omega
        · obtain rfl : k = sg.length := by omega
          rw [List.take_length] at HR
          have C7 := (show Hid _ from joinS38 sa scap sg [59] wr X3 HI.out.2.1 (by omega) (by have := HI.out.2.2.2; omega))
          have htl3 : (toB ([m, es, cq] ++ sg.map (lineL hs))).length = sg.length + 3 := by rw [toB_len, List.length_append, List.length_map]; simp; omega
          clear hown hb hbW X0 X1 X2 X3
          go_wp2_with fail
          refine Calls.mono C7.out ?_
          rintro e w8 ⟨rfl, hb8⟩
          have H8 := (show Hid (OwnS w8 g u15 (toB ([m, es, cq] ++ sg.map (lineL hs))) ∧ Below g W6 w8) from ⟨own_of_below HR.out.1 hb8, HR.out.2.1.trans (hb8.mono (by have := H6.out.2.2.1; omega))⟩)
          have hsz8 := H8.out.2.size
          have hg6 := H6.out.2.2.1
          clear C7 hb8
          generalize Lib.join sg [59] = js at *
          go_wp2_with (at_builtin; refine wpList_append_own _ rfl (.tmp 66) (.tmp 70) 26 rfl g 9 j0 (.string ⟨#[]⟩) 1 16 Tryz.underlying26 ji jz0 jz1 jz2 rfl (by decide) _ _ _ rfl (World.ownsRow.alloc H8.out.1 _) ⟨w8.heap.size, 0, none⟩ 3 3 [.string ⟨#[]⟩, .string ⟨js.toArray⟩, .string ⟨pl.toArray⟩] rfl rfl (cell_three_new _ _ _ _ _) (three_one _ _ _) (by unfold maxLen; omega) (by omega) (by simp; omega) ?_; intro v9 w9 hown9 hgrow9 _)
          have HLL := (show Hid (T = Lib.join ([m, es, cq] ++ sg.map (lineL hs) ++ [[], js, pl]) [10]) from by rw [← H00.out]; exact HT.out)
          have H9 := (show Hid (OwnS w9 g v9 (toB ([m, es, cq] ++ sg.map (lineL hs) ++ [[], js, pl])) ∧ Below g W6 w9) from by
            refine ⟨?_, (H8.out.2.alloc (by omega) _).grown hgrow9 (by simp; omega) (fun j hj => (World.ownsRow.lt H8.out.1 j hj).1)⟩
            have e : toB ([m, es, cq] ++ sg.map (lineL hs) ++ [[], js, pl]) = toB ([m, es, cq] ++ sg.map (lineL hs)) ++ [⟨#[]⟩, ⟨js.toArray⟩, ⟨pl.toArray⟩] := by
              rw [toB, toB, List.map_append]
              rfl
            rw [e]
            exact ownS_more3 hown9)
          have C9 := (show Hid _ from join38 v9 g ([m, es, cq] ++ sg.map (lineL hs) ++ [[], js, pl]) [10] w9 H9.out.1 (by simp; omega) (by rw [← HLL.out]; have := HI.out.2.2.1; omega))
          rw [← HLL.out] at C9
          have HB9 := (show Hid (Below w.heap.size w w9 ∧ w.heap.size ≤ w9.heap.size) from by
            have hz := HW.out.1.trans ((H6.out.2.1.trans (H9.out.2.mono H6.out.2.2.2)).mono HW.out.1.size)
            exact ⟨hz, hz.size⟩)
          clear hown9 hgrow9 H9
          go_wp2_with fail
          refine Calls.mono C9.out ?_
          rintro e w10 ⟨rfl, hb10⟩
          have HB10 := (show Hid (Below w.heap.size w w10) from HB9.out.1.trans (hb10.mono HB9.out.2))
          clear C9 hb10
          go_wp2
          go_ret2
          rw [HF.out.1, HF.out.2]
          exact ⟨rfl, HB10.out⟩
end Go.Proofs.YtnmffehmjgknkaaGreatDoor

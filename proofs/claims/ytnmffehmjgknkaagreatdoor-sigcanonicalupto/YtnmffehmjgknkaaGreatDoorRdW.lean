/-
  The document's Canonical.
-/
import Derived.Test.YtnmffehmjgknkaaGreatDoorRcW
import Derived.Test.YtnmffehmjgknkaaGreatDoorRunR
namespace Go.Proofs.YtnmffehmjgknkaaGreatDoor
open Go.RowKit
open Ch (foldL fold_len escL uneV uneOk escL_len)

theorem fold44 (x : List UInt8) (w : World) (h : x.length ≤ 1000000000) : Calls Tryz.prog 44 #[.string ⟨x.toArray⟩] w fun e w' => e = .returned (.string ⟨(foldL x).toArray⟩) ∧ w = w' :=
  Ch.refFold_any ⟨x.toArray⟩ w (by rw [mk_size]; unfold maxLen; omega)
/-- Lines, each with its end. -/
def endL (hs : List Hd) (sg : List (List UInt8)) : List UInt8 := (sg.map fun n => lineL hs n ++ [10]).flatten
def startL (m es cq : List UInt8) : List UInt8 := m ++ [10] ++ es ++ [10] ++ cq ++ [10]
theorem join_lines (X : List (List UInt8)) (a b c : List UInt8) : Lib.join (X ++ [a, b, c]) [10] = (X.map fun n => n ++ [10]).flatten ++ a ++ [10] ++ b ++ [10] ++ c := by
  induction X with
  | nil =>
    show Lib.join [a, b, c] [10] = _
    rw [Lib.join_cons, Lib.joinTail]
    simp
  | cons x X ih =>
    have e : ∀ (y : List UInt8) (r : List (List UInt8)), r ≠ [] → Lib.join (y :: r) [10] = y ++ [10] ++ Lib.join r [10] := fun y r hr => by
      match r, hr with
      | z :: r, _ => rw [Lib.join_cons, Lib.join_cons, Lib.joinTail, Lib.joinTail]; simp
    rw [List.cons_append, e _ _ (by simp), ih]
    simp
theorem cnT_eq (m tg : List UInt8) (hs : List Hd) (sg : List (List UInt8)) (pl : List UInt8) (pre : Bool) :
    cnT m tg hs sg pl pre = startL m (escL true (uneV (Lib.cut tg [63]).1)) (cqL (prL tg pre)) ++ endL hs sg ++ [10] ++ Lib.join sg [59] ++ [10] ++ pl := by
  unfold cnT
  rw [join_lines]
  simp [cn0, startL, endL, List.map_map, Function.comp_def]
theorem end_snoc (hs : List Hd) {sg : List (List UInt8)} {k : Nat} (h : k < sg.length) : endL hs (sg.take (k + 1)) = endL hs (sg.take k) ++ lineL hs sg[k] ++ [10] := by
  unfold endL
  rw [List.take_succ_eq_append_getElem h, List.map_append, List.flatten_append, List.map_singleton, List.flatten_singleton, List.append_assoc]
theorem end_le (hs : List Hd) (sg : List (List UInt8)) (k : Nat) : (endL hs (sg.take k)).length ≤ (endL hs sg).length := by
  have e : endL hs sg = endL hs (sg.take k) ++ endL hs (sg.drop k) := by
    unfold endL
    rw [← List.flatten_append, ← List.map_append, List.take_append_drop]
  rw [e, List.length_append]
  omega
theorem end_len (hs : List Hd) (sg : List (List UInt8)) : (endL hs sg).length = Lib.lens (sg.map (lineL hs)) + sg.length := by
  induction sg with
  | nil => simp [endL, Lib.lens]
  | cons n sg ih => simp [endL, Lib.lens] at *; omega
set_option maxRecDepth 20000 in
set_option maxHeartbeats 4000000 in
theorem rcanon (m tg : List UInt8) (ha : Option Addr) (hs : List Hd) (hcap : Nat) (bv : Value) (sa : Option Addr) (sg : List (List UInt8)) (scap : Nat) (pl : List UInt8) (pre : Bool) (w : World)
    (hB : CnB m tg hs sg pl) (hH : Hdrs w ha hs) (hS : Strs w sa (toB sg)) (hsc : sg.length ≤ scap) :
    Calls Tryz.prog 10 #[.agg #[.string ⟨m.toArray⟩, .string ⟨tg.toArray⟩, .slice ha hs.length hcap, bv], .slice sa sg.length scap, .string ⟨pl.toArray⟩, .bool pre] w fun e w' => e = .returned (.tuple #[.string ⟨(cnV m tg hs sg pl pre).toArray⟩, .int .i64 (cnE tg pre)]) ∧ Below w.heap.size w w' := by
  have HI := (show Hid (CnB m tg hs sg pl ∧ sg.length ≤ scap ∧ (cnT m tg hs sg pl pre).length ≤ 20000000000000 ∧ (Lib.join sg [59]).length ≤ 4194304) from ⟨hB, hsc, hB.cnT pre⟩)
  have htl := hB.tg
  obtain ⟨cv, hcv⟩ : ∃ cv, cv = cnV m tg hs sg pl pre := ⟨_, rfl⟩
  obtain ⟨ce, hce⟩ : ∃ ce, ce = cnE tg pre := ⟨_, rfl⟩
  obtain ⟨T, hTT⟩ : ∃ T, T = cnT m tg hs sg pl pre := ⟨_, rfl⟩
  obtain ⟨PR, hPR⟩ : ∃ PR, PR = prL tg pre := ⟨_, rfl⟩
  obtain ⟨pt, hpt⟩ : ∃ pt, pt = (Lib.cut tg [63]).1 := ⟨_, rfl⟩
  have HV := (show Hid (cv = (if uneOk pt && PR.all okP then T else []) ∧ ce = (if uneOk pt && PR.all okP then 0 else 331)) from ⟨by rw [hcv, cnV, cnOk, hPR, hpt, hTT], by rw [hce, cnE, cnOk, hPR, hpt]⟩)
  have H0 := (show Hid (T = startL m (escL true (uneV pt)) (cqL PR) ++ endL hs sg ++ [10] ++ Lib.join sg [59] ++ [10] ++ pl ∧ pt.length ≤ 4194304) from ⟨by rw [hTT, cnT_eq, hpt, hPR], by rw [hpt]; have := (cut_len tg [63]).1; omega⟩)
  rw [← hTT] at HI
  have HQ := (show Hid (∀ W, Calls Tryz.prog 39 #[.string ⟨tg.toArray⟩] W fun e w' => ∃ v, e = .returned (.tuple #[.string ⟨pt.toArray⟩, v]) ∧ Below W.heap.size W w') from fun W => by
    rw [hpt]
    exact (refQuery_any tg W (by omega)).mono fun e w' ⟨v, h1, _, h2⟩ => ⟨v, h1, h2⟩)
  have HRQ := (show Hid (∀ W, Calls Tryz.prog 41 #[.string ⟨tg.toArray⟩, .bool pre] W fun e w' => e = .returned (.tuple #[.string ⟨(cqV PR).toArray⟩, .bool (PR.all okP)]) ∧ Below W.heap.size W w') from fun W => by
    rw [hPR]
    exact rquery41 tg pre W htl)
  rw [← hcv, ← hce]
  clear hcv hce hTT hPR hpt
  go_enter Tryz.func10, Tryz.ntmps10
  go_upto_region 1 with fail
  obtain ⟨W, hW⟩ : ∃ W, W = w.alloc (.cells #[.string ⟨m.toArray⟩, .string ⟨tg.toArray⟩, .slice ha hs.length hcap, bv] 25) := ⟨_, rfl⟩
  obtain ⟨A, hA⟩ : ∃ A, A = w.heap.size := ⟨_, rfl⟩
  have nA : W.heap[A]? = some (.cells #[.string ⟨m.toArray⟩, .string ⟨tg.toArray⟩, .slice ha hs.length hcap, bv] 25 (0, 0)) := by rw [hW, hA]; exact heap_alloc_new _ _
  have hbW : Below w.heap.size w W := by rw [hW]; exact (Below.refl _ w).alloc (Nat.le_refl _) _
  have hAW := blk_lt nA
  have HX := (show Hid (∀ w', Below W.heap.size W w' → w'.cell? ⟨A, 0, none⟩ = some (.string ⟨m.toArray⟩) ∧ w'.cell? ⟨A, 1, none⟩ = some (.string ⟨tg.toArray⟩) ∧ w'.cell? ⟨A, 2, none⟩ = some (.slice ha hs.length hcap) ∧ Hdrs w' ha hs ∧ Strs w' sa (toB sg)) from fun w' hb =>
    ⟨(hb.cell (p := ⟨A, 0, none⟩) hAW).trans (by have := cell_blk nA 0; simpa using this), (hb.cell (p := ⟨A, 1, none⟩) hAW).trans (by have := cell_blk nA 1; simpa using this), (hb.cell (p := ⟨A, 2, none⟩) hAW).trans (by have := cell_blk nA 2; simpa using this), (hH.below hbW (Nat.le_refl _)).below hb (Nat.le_refl _), (hS.below hbW (Nat.le_refl _)).below hb (Nat.le_refl _)⟩)
  have a1 := (HX.out W (Below.refl _ _)).2.1
  have HW := (show Hid (Below w.heap.size w W) from hbW)
  rw [← hW, ← hA]
  clear hH hS hsc hB hW hA nA hbW hAW htl
  go_wp2_with fail
  refine Calls.mono (HQ.out _) ?_
  rintro e w1 ⟨v1, rfl, hb1⟩
  have HB1 := (show Hid (Below W.heap.size W w1) from hb1)
  have C3 := (show Hid _ from une40 pt w1 (by have := H0.out.2; omega))
  clear HQ a1 hb1
  go_wp2_with fail
  refine Calls.mono C3.out ?_
  rintro e w2 ⟨rfl, hb2⟩
  have HB2 := (show Hid (Below W.heap.size W w2) from HB1.out.trans (hb2.mono HB1.out.size))
  have a1 := (HX.out w2 HB2.out).2.1
  clear C3 hb2
  go_wp2_with fail
  refine Calls.mono (HRQ.out _) ?_
  rintro e w4 ⟨rfl, hb4⟩
  have H4 := (show Hid (Below W.heap.size W w4) from HB2.out.trans (hb4.mono HB2.out.size))
  have HE := (show Hid (PR.all okP = true → cqV PR = cqL PR) from fun h => by rw [cqV, if_pos h])
  clear HRQ hb4 a1
  cases h1 : uneOk pt with
  | false =>
    have HF := (show Hid (cv = [] ∧ ce = 331) from by
      show cv = [] ∧ ce = 331
      have := HV.out
      rw [h1] at this
      simpa using this)
    clear h1 HE
    go_wp2
    go_ret2
    rw [HF.out.1, HF.out.2]
    exact ⟨rfl, HW.out.trans (H4.out.mono HW.out.size)⟩
  | true =>
    cases h2 : PR.all okP with
    | false =>
      have HF := (show Hid (cv = [] ∧ ce = 331) from by
        show cv = [] ∧ ce = 331
        have := HV.out
        rw [h1, h2] at this
        simpa using this)
      clear h1 h2 HE
      go_wp2
      go_ret2
      rw [HF.out.1, HF.out.2]
      exact ⟨rfl, HW.out.trans (H4.out.mono HW.out.size)⟩
    | true =>
      have HF := (show Hid (cv = T ∧ ce = 0) from by
        show cv = T ∧ ce = 0
        have := HV.out
        rw [h1, h2] at this
        simpa using this)
      rw [HE.out h2]
      have C5 := (show Hid (∀ W', Calls Tryz.prog 42 #[.string ⟨(uneV pt).toArray⟩, .bool true] W' fun e w' => e = .returned (.string ⟨(escL true (uneV pt)).toArray⟩) ∧ Below W'.heap.size W' w') from fun W' => esc42 (uneV pt) true W' (by have := uneV_len pt; have := H0.out.2; omega))
      have X0 := (HX.out w4 H4.out).1
      clear h1 h2 HE HV
      generalize hq : cqL PR = cq at *
      generalize huv : uneV pt = uv at *
      generalize hes : escL true uv = es at *
      clear hq huv hes
      have HTL := (show Hid (T.length = m.length + es.length + cq.length + (endL hs sg).length + (Lib.join sg [59]).length + pl.length + 5) from by
        show _ = _
        rw [H0.out.1]
        simp [startL]
        omega)
      go_upto_region 6 with fail
      have HXX := (show Hid (∀ w', Below w4.heap.size w4 w' → w'.cell? ⟨A, 0, none⟩ = some (.string ⟨m.toArray⟩)) from fun w' hb => (HX.out w' (H4.out.trans (hb.mono H4.out.size))).1)
      have htT := HTL.out
      have htI := HI.out.2.2.1
      have s1 : ¬ 9223372036854775807 < m.length + 1 := by omega
      have s2 : ¬ 9223372036854775807 < m.length + 1 + es.length := by omega
      have s3 : ¬ 9223372036854775807 < m.length + 1 + es.length + 1 := by omega
      have s4 : ¬ 9223372036854775807 < m.length + 1 + es.length + 1 + cq.length := by omega
      have s5 : ¬ 9223372036854775807 < m.length + 1 + es.length + 1 + cq.length + 1 := by omega
      clear htT htI
      refine wp_region_held_drew (S := fun w' => Below w4.heap.size w4 w' ∧ w'.cell? ⟨A, 0, none⟩ = some (.string ⟨m.toArray⟩)) (by kernel_rfl) (⟨(Below.refl _ w4).drew, X0⟩) (fun hHeld => ?_)
      refine wpAnyH_take (i := 0) (oi := { dst := some 45, op := Op.fieldAddr 25 (Operand.tmp 4) 0, type := 0, pos := "stowageref18.go:94", after := #[], guard := none }) (v := ?_) rfl (by kernel_rfl) (by kernel_rfl) (by kernel_rfl) (fun _ _ _ h => h) (Or.inl ⟨by rfl, ?_⟩) (by assumption) ?_
      rotate_left
      · intro w hSw
        try dsimp only at hSw
        go_simp
        all_goals with_reducible rfl
      try simp only [Act.put, List.setIfInBounds_toArray, List.set_cons_zero, List.set_cons_succ]
      refine wpAnyH_take (i := 1) (oi := { dst := some 46, op := Op.load 9 (Operand.tmp 45), type := 9, pos := "stowageref18.go:94", after := #[{ on := 0, ground := Ground.data }], guard := none }) (v := ?_) rfl (by kernel_rfl) (by kernel_rfl) (by kernel_rfl) (fun _ _ _ h => h) (Or.inl ⟨by rfl, ?_⟩) (by assumption) ?_
      rotate_left
      · intro w hSw
        try dsimp only at hSw
        go_simp
        all_goals with_reducible rfl
      try simp only [Act.put, List.setIfInBounds_toArray, List.set_cons_zero, List.set_cons_succ]
      refine wpAnyH_take (i := 2) (oi := { dst := some 47, op := Op.binOp BinOp.add 9 (Operand.tmp 46) (Operand.const (Value.string { data := #[10] })) 9, type := 9, pos := "stowageref18.go:94", after := #[{ on := 1, ground := Ground.data }], guard := none }) (v := ?_) rfl (by kernel_rfl) (by kernel_rfl) (by kernel_rfl) (fun _ _ _ h => h) (Or.inl ⟨by rfl, ?_⟩) (by assumption) ?_
      rotate_left
      · intro w hSw
        try dsimp only at hSw
        go_simp
        all_goals with_reducible rfl
      try simp only [Act.put, List.setIfInBounds_toArray, List.set_cons_zero, List.set_cons_succ]
      refine wpAnyH_take (i := 3) (oi := { dst := some 48, op := Op.move (Operand.tmp 12), type := 9, pos := "stowageref18.go:94", after := #[], guard := none }) (v := ?_) rfl (by kernel_rfl) (by kernel_rfl) (by kernel_rfl) (fun _ _ _ h => h) (Or.inl ⟨by rfl, ?_⟩) (by assumption) ?_
      rotate_left
      · intro w hSw
        try dsimp only at hSw
        go_simp
        all_goals with_reducible rfl
      try simp only [Act.put, List.setIfInBounds_toArray, List.set_cons_zero, List.set_cons_succ]
      refine wpAnyH_take (i := 7) (oi := { dst := some 52, op := Op.move (Operand.tmp 14), type := 9, pos := "stowageref18.go:94", after := #[], guard := none }) (v := ?_) rfl (by kernel_rfl) (by kernel_rfl) (by kernel_rfl) (fun _ _ _ h => h) (Or.inl ⟨by rfl, ?_⟩) (by assumption) ?_
      rotate_left
      · intro w hSw
        try dsimp only at hSw
        go_simp
        all_goals with_reducible rfl
      try simp only [Act.put, List.setIfInBounds_toArray, List.set_cons_zero, List.set_cons_succ]
      refine wpAnyH_ready (rs := [4]) (by kernel_rfl) (by simp) ?_
      refine AllReadyH.cons (o := { dst := some 49, op := Op.call { callee := Callee.value (Operand.func 42), args := #[Operand.tmp 48, Operand.const (Value.bool true)], argTypes := #[9, 4] }, type := 9, pos := "stowageref18.go:94", after := #[{ on := 3, ground := Ground.data }], guard := none }) rfl (fun K0 hK => ?_) AllReadyH.nil
      go_simp
      go_at_call 42
      refine Calls.mono (C5.out _) ?_
      rintro e w5 ⟨rfl, hb5⟩
      have hb5 : Below w4.heap.size w4 w5 := (Below.refl w4.heap.size w4).drew.trans hb5
      refine hK.out _ _ ⟨hb5, HXX.out w5 hb5⟩ (fun hHeld => ?_)
      clear hK K0
      try simp only [Act.put, List.setIfInBounds_toArray, List.set_cons_zero, List.set_cons_succ]
      refine wpAnyH_take (i := 5) (oi := { dst := some 50, op := Op.binOp BinOp.add 9 (Operand.tmp 47) (Operand.tmp 49) 9, type := 9, pos := "stowageref18.go:94", after := #[{ on := 2, ground := Ground.data }, { on := 4, ground := Ground.data }], guard := none }) (v := ?_) rfl (by kernel_rfl) (by kernel_rfl) (by kernel_rfl) (fun _ _ _ h => h) (Or.inl ⟨by rfl, ?_⟩) (by assumption) ?_
      rotate_left
      · intro w hSw
        try dsimp only at hSw
        go_simp
        all_goals with_reducible rfl
      try simp only [Act.put, List.setIfInBounds_toArray, List.set_cons_zero, List.set_cons_succ]
      refine wpAnyH_take (i := 6) (oi := { dst := some 51, op := Op.binOp BinOp.add 9 (Operand.tmp 50) (Operand.const (Value.string { data := #[10] })) 9, type := 9, pos := "stowageref18.go:94", after := #[{ on := 5, ground := Ground.data }], guard := none }) (v := ?_) rfl (by kernel_rfl) (by kernel_rfl) (by kernel_rfl) (fun _ _ _ h => h) (Or.inl ⟨by rfl, ?_⟩) (by assumption) ?_
      rotate_left
      · intro w hSw
        try dsimp only at hSw
        go_simp
        all_goals with_reducible rfl
      try simp only [Act.put, List.setIfInBounds_toArray, List.set_cons_zero, List.set_cons_succ]
      refine wpAnyH_take (i := 8) (oi := { dst := some 53, op := Op.binOp BinOp.add 9 (Operand.tmp 51) (Operand.tmp 52) 9, type := 9, pos := "stowageref18.go:94", after := #[{ on := 6, ground := Ground.data }, { on := 7, ground := Ground.data }], guard := none }) (v := ?_) rfl (by kernel_rfl) (by kernel_rfl) (by kernel_rfl) (fun _ _ _ h => h) (Or.inl ⟨by rfl, ?_⟩) (by assumption) ?_
      rotate_left
      · intro w hSw
        try dsimp only at hSw
        go_simp
        all_goals with_reducible rfl
      try simp only [Act.put, List.setIfInBounds_toArray, List.set_cons_zero, List.set_cons_succ]
      refine wpAnyH_take (i := 9) (oi := { dst := some 54, op := Op.binOp BinOp.add 9 (Operand.tmp 53) (Operand.const (Value.string { data := #[10] })) 9, type := 9, pos := "stowageref18.go:94", after := #[{ on := 8, ground := Ground.data }], guard := none }) (v := ?_) rfl (by kernel_rfl) (by kernel_rfl) (by kernel_rfl) (fun _ _ _ h => h) (Or.inl ⟨by rfl, ?_⟩) (by assumption) ?_
      rotate_left
      · intro w hSw
        try dsimp only at hSw
        go_simp
        all_goals with_reducible rfl
      try simp only [Act.put, List.setIfInBounds_toArray, List.set_cons_zero, List.set_cons_succ]
      refine wpAnyH_take (i := 10) (oi := { dst := some 16, op := Op.assign (Operand.tmp 54), type := 9, pos := "stowageref18.go:94", after := #[{ on := 9, ground := Ground.data }, { on := 4, ground := Ground.chain }, { on := 0, ground := Ground.phase }, { on := 1, ground := Ground.phase }, { on := 2, ground := Ground.phase }, { on := 3, ground := Ground.phase }, { on := 4, ground := Ground.phase }, { on := 5, ground := Ground.phase }, { on := 6, ground := Ground.phase }, { on := 7, ground := Ground.phase }, { on := 8, ground := Ground.phase }, { on := 9, ground := Ground.phase }], guard := none }) (v := ?_) rfl (by kernel_rfl) (by kernel_rfl) (by kernel_rfl) (fun _ _ _ h => h) (Or.inl ⟨by rfl, ?_⟩) (by assumption) ?_
      rotate_left
      · intro w hSw
        try dsimp only at hSw
        go_simp
        all_goals with_reducible rfl
      try simp only [Act.put, List.setIfInBounds_toArray, List.set_cons_zero, List.set_cons_succ]
      refine wpAnyH_done (by kernel_rfl) ?_ _
      have H5 := (show Hid (Below W.heap.size W w5) from H4.out.trans (hb5.mono H4.out.size))
      have hsgl : sg.length ≤ 4194304 := by have := HI.out.1.sg; omega
      have HST := (show Hid ((((⟨m.toArray⟩ : ByteArray) ++ ⟨#[10]⟩ ++ ⟨es.toArray⟩ ++ ⟨#[10]⟩ ++ ⟨cq.toArray⟩ ++ ⟨#[10]⟩)).data.toList = startL m es cq ++ endL hs (sg.take 0)) from by
        show _ = _
        simp [startL, endL])
      clear s1 s2 s3 s4 s5 X0 HXX hb5 hHeld C5
      go_wp2
      go_loopw [16, 17] (fun s i W' => ∃ (k : Nat) (S : ByteArray), k ≤ sg.length ∧ i = .int .i64 k ∧ s = .string S ∧ S.data.toList = startL m es cq ++ endL hs (sg.take k) ∧ Below W.heap.size W W') (fun _ i _ => sg.length - (intOf i).toNat)
      case atStart => exact ⟨0, _, Nat.zero_le _, rfl, rfl, HST.out, H5.out⟩
      case round =>
        obtain ⟨k, S, hk, rfl, rfl, hS, hb⟩ := hrel
        have hSz : S.size = S.data.toList.length := by simp
        have hsl : (startL m es cq).length = m.length + es.length + cq.length + 3 := by simp [startL]; omega
        have hTl := HTL.out
        have hTi := HI.out.2.2.1
        have hel := end_le hs sg k
        have hsS : S.data.toList.length = (startL m es cq).length + (endL hs (sg.take k)).length := by rw [hS, List.length_append]
        have HR := (show Hid (Below W.heap.size W wr ∧ S.data.toList = startL m es cq ++ endL hs (sg.take k)) from ⟨hb, hS⟩)
        obtain ⟨-, -, X2, X3, X4⟩ := HX.out wr hb
        by_cases hlt : k < sg.length
        · rcases X4 with hnil | ⟨b, off, rfl, hbs, hc⟩
          · have := congrArg List.length hnil
            rw [toB_len] at this
            simp at this
            rw [this] at hlt
            simp at hlt
          · have c1 := hc k (by rw [toB_len]; exact hlt)
            rw [toB_at] at c1
            have hel1 := end_le hs sg (k + 1)
            rw [end_snoc hs hlt] at hel1
            have hts := HI.out.1.hs
            have HSN := (show Hid (endL hs (sg.take (k + 1)) = endL hs (sg.take k) ++ lineL hs sg[k] ++ [10]) from end_snoc hs hlt)
            generalize sg[k] = x at *
            have hln : (lineL hs x).length = x.length + 1 + (cvL hs x).length := by simp [lineL]; omega
            rw [List.length_append, List.length_append, hln] at hel1
            have HCV := (show Hid (cvL hs x = Lib.join ((allL hs x).map foldL) [44]) from rfl)
            have HLN := (show Hid (lineL hs x = x ++ 58 :: cvL hs x) from rfl)
            have hlv := lens_all hs x
            have hlf := lens_fold (allL hs x)
            have CA := (show Hid (∀ W', Below wr.heap.size wr W' → Calls Tryz.prog 43 #[.slice ha hs.length hcap, .string ⟨x.toArray⟩] W' fun e w' => ∃ v, e = .returned v ∧ OwnS w' W'.heap.size v (toB (allL hs x)) ∧ Below W'.heap.size W' w') from fun W' hb' => refAll_any ha hs hcap x W' (X3.below hb' (Nat.le_refl _)) (by have := tot_len hs; omega))
            generalize cvL hs x = cx at *
            generalize allL hs x = V at *
            have hVl : V.length ≤ 4194304 := by omega
            have HVB := (show Hid (Lib.lens V + V.length ≤ 4194304 ∧ Lib.lens (V.map foldL) ≤ 4194304) from ⟨by omega, by omega⟩)
            have HWX := (show Hid (∀ w', Below wr.heap.size wr w' → w'.cell? ⟨b, off + k, none⟩ = some (.string ⟨x.toArray⟩)) from fun w' hb' => (hb'.cell (p := ⟨b, off + k, none⟩) hbs).trans c1)
            have HWY := (show Hid (∀ w', Below wr.heap.size wr w' → w'.cell? ⟨A, 2, none⟩ = some (.slice ha hs.length hcap)) from fun w' hb' => (HX.out w' (HR.out.1.trans (hb'.mono HR.out.1.size))).2.2.1)
            have hki : (k : Int) < (sg.length : Int) := by omega
            have hkk : (0 : Int) ≤ (k : Int) := by omega
            have s1 : ¬ 9223372036854775807 < S.size + x.length := by omega
            have s2 : ¬ 9223372036854775807 < S.size + x.length + 1 := by omega
            have s3 : ¬ 9223372036854775807 < S.size + x.length + 1 + cx.length := by omega
            have s4 : ¬ 9223372036854775807 < S.size + x.length + 1 + cx.length + 1 := by omega
            clear hSz hsl hTl hTi hel hsS hS hel1 hln hts hlv hlf hc hb X3
            go_upto_region 10 with fail
            refine wp_region_held_drew (S := fun w' => Below wr.heap.size wr w' ∧ w'.cell? ⟨A, 2, none⟩ = some (.slice ha hs.length hcap) ∧ w'.cell? ⟨b, off + k, none⟩ = some (.string ⟨x.toArray⟩)) (by kernel_rfl) (⟨(Below.refl _ wr).drew, X2, c1⟩) (fun hHeld => ?_)
            refine wpAnyH_take (i := 0) (oi := { dst := some 61, op := Op.fieldAddr 25 (Operand.tmp 4) 2, type := 0, pos := "stowageref18.go:96", after := #[], guard := none }) (v := ?_) rfl (by kernel_rfl) (by kernel_rfl) (by kernel_rfl) (fun _ _ _ h => h) (Or.inl ⟨by rfl, ?_⟩) (by assumption) ?_
            rotate_left
            · intro w hSw
              try dsimp only at hSw
              go_simp
              all_goals with_reducible rfl
            try simp only [Act.put, List.setIfInBounds_toArray, List.set_cons_zero, List.set_cons_succ]
            refine wpAnyH_take (i := 1) (oi := { dst := some 62, op := Op.load 22 (Operand.tmp 61), type := 22, pos := "stowageref18.go:96", after := #[{ on := 0, ground := Ground.data }], guard := none }) (v := ?_) rfl (by kernel_rfl) (by kernel_rfl) (by kernel_rfl) (fun _ _ _ h => h) (Or.inl ⟨by rfl, ?_⟩) (by assumption) ?_
            rotate_left
            · intro w hSw
              try dsimp only at hSw
              go_simp
              all_goals with_reducible rfl
            try simp only [Act.put, List.setIfInBounds_toArray, List.set_cons_zero, List.set_cons_succ]
            refine wpAnyH_take (i := 2) (oi := { dst := some 63, op := Op.move (Operand.tmp 1), type := 26, pos := "stowageref18.go:96", after := #[], guard := none }) (v := ?_) rfl (by kernel_rfl) (by kernel_rfl) (by kernel_rfl) (fun _ _ _ h => h) (Or.inl ⟨by rfl, ?_⟩) (by assumption) ?_
            rotate_left
            · intro w hSw
              try dsimp only at hSw
              go_simp
              all_goals with_reducible rfl
            try simp only [Act.put, List.setIfInBounds_toArray, List.set_cons_zero, List.set_cons_succ]
            refine wpAnyH_take (i := 3) (oi := { dst := some 64, op := Op.move (Operand.tmp 17), type := 3, pos := "stowageref18.go:96", after := #[], guard := none }) (v := ?_) rfl (by kernel_rfl) (by kernel_rfl) (by kernel_rfl) (fun _ _ _ h => h) (Or.inl ⟨by rfl, ?_⟩) (by assumption) ?_
            rotate_left
            · intro w hSw
              try dsimp only at hSw
              go_simp
              all_goals with_reducible rfl
            try simp only [Act.put, List.setIfInBounds_toArray, List.set_cons_zero, List.set_cons_succ]
            refine wpAnyH_take (i := 4) (oi := { dst := some 65, op := Op.indexAddr 26 (Operand.tmp 63) (Operand.tmp 64), type := 0, pos := "stowageref18.go:96", after := #[{ on := 2, ground := Ground.data }, { on := 3, ground := Ground.data }], guard := none }) (v := ?_) rfl (by kernel_rfl) (by kernel_rfl) (by kernel_rfl) (fun _ _ _ h => h) (Or.inl ⟨by rfl, ?_⟩) (by assumption) ?_
            rotate_left
            · intro w hSw
              try dsimp only at hSw
              go_simp
              all_goals with_reducible rfl
            try simp only [Act.put, List.setIfInBounds_toArray, List.set_cons_zero, List.set_cons_succ]
            refine wpAnyH_take (i := 5) (oi := { dst := some 66, op := Op.load 9 (Operand.tmp 65), type := 9, pos := "stowageref18.go:96", after := #[{ on := 4, ground := Ground.data }], guard := none }) (v := ?_) rfl (by kernel_rfl) (by kernel_rfl) (by kernel_rfl) (fun _ _ _ h => h) (Or.inl ⟨by rfl, ?_⟩) (by assumption) ?_
            rotate_left
            · intro w hSw
              try dsimp only at hSw
              go_simp
              all_goals with_reducible rfl
            try simp only [Act.put, List.setIfInBounds_toArray, List.set_cons_zero, List.set_cons_succ]
            refine wpAnyH_ready (rs := [6]) (by kernel_rfl) (by simp) ?_
            refine AllReadyH.cons (o := { dst := some 67, op := Op.call { callee := Callee.value (Operand.func 43), args := #[Operand.tmp 62, Operand.tmp 66], argTypes := #[22, 9] }, type := 26, pos := "stowageref18.go:96", after := #[{ on := 1, ground := Ground.data }, { on := 5, ground := Ground.data }], guard := none }) rfl (fun K0 hK => ?_) AllReadyH.nil
            go_simp
            go_at_call 43
            refine Calls.mono (CA.out _ ((Below.refl _ wr).drew)) ?_
            rintro e w5' ⟨v5, rfl, ho5, hb5'⟩
            have hb5' : Below wr.heap.size wr w5' := (Below.refl wr.heap.size wr).drew.trans hb5'
            refine hK.out _ _ ⟨hb5', HWY.out w5' hb5', HWX.out w5' hb5'⟩ (fun hHeld => ?_)
            clear hK K0
            try simp only [Act.put, List.setIfInBounds_toArray, List.set_cons_zero, List.set_cons_succ]
            refine wpAnyH_take (i := 7) (oi := { dst := some 18, op := Op.assign (Operand.tmp 67), type := 26, pos := "stowageref18.go:96", after := #[{ on := 6, ground := Ground.data }, { on := 6, ground := Ground.chain }, { on := 0, ground := Ground.phase }, { on := 1, ground := Ground.phase }, { on := 2, ground := Ground.phase }, { on := 3, ground := Ground.phase }, { on := 4, ground := Ground.phase }, { on := 5, ground := Ground.phase }, { on := 6, ground := Ground.phase }], guard := none }) (v := ?_) rfl (by kernel_rfl) (by kernel_rfl) (by kernel_rfl) (fun _ _ _ h => h) (Or.inl ⟨by rfl, ?_⟩) (by assumption) ?_
            rotate_left
            · intro w hSw
              try dsimp only at hSw
              go_simp
              all_goals with_reducible rfl
            try simp only [Act.put, List.setIfInBounds_toArray, List.set_cons_zero, List.set_cons_succ]
            refine wpAnyH_done (by kernel_rfl) ?_ _
            have HB5 := (show Hid (Below wr.heap.size wr w5') from hb5')
            obtain ⟨a5, c5, rfl, hS5⟩ := ho5.strs
            have HS5 := (show Hid (Strs w5' a5 (toB V)) from hS5)
            rw [toB_len]
            clear hHeld ho5 hb5' hS5 CA c1 X2
            obtain ⟨j0, ji, jz0, jz1, jz2⟩ := info_parts info9
            go_wp2
            go_loopw [19, 20] (fun v i W' => ∃ q : Nat, q ≤ V.length ∧ i = .int .i64 q ∧ OwnS W' w5'.heap.size v (toB ((V.take q).map foldL)) ∧ Below w5'.heap.size w5' W') (fun _ i _ => V.length - (intOf i).toNat)
            case atStart => exact ⟨0, Nat.zero_le _, rfl, World.ownsRow_nil _ _ _ _, Below.refl _ _⟩
            case round =>
              obtain ⟨q, hq, rfl, hown, hb9⟩ := hrel
              have hsz9 := hb9.size
              by_cases hlt9 : q < V.length
              · rcases HS5.out.below hb9 (Nat.le_refl _) with hnil | ⟨b2, off2, rfl, hbs2, hc2⟩
                · have := congrArg List.length hnil
                  rw [toB_len] at this
                  simp at this
                  rw [this] at hlt9
                  simp at hlt9
                · have c2 := hc2 q (by rw [toB_len]; exact hlt9)
                  rw [toB_at] at c2
                  have hyl := lens_mem (List.getElem_mem hlt9)
                  have hvb := HVB.out.1
                  have HT2 := (show Hid (toB ((V.take (q + 1)).map foldL) = toB ((V.take q).map foldL) ++ [⟨(foldL V[q]).toArray⟩]) from by
                    show _ = _
                    rw [List.take_succ_eq_append_getElem hlt9, List.map_append, toB, toB, List.map_append]
                    rfl)
                  have htl2 : (toB ((V.take q).map foldL)).length = q := by rw [toB_len, List.length_map, List.length_take]; omega
                  generalize V[q] = y at *
                  have CF := (show Hid (∀ W', Calls Tryz.prog 44 #[.string ⟨y.toArray⟩] W' fun e w' => e = .returned (.string ⟨(foldL y).toArray⟩) ∧ W' = w') from fun W' => fold44 y W' (by omega))
                  generalize foldL y = fy at *
                  have HO := (show Hid _ from hown)
                  have HB9 := (show Hid (Below w5'.heap.size w5' wr) from hb9)
                  have hqi : (q : Int) < (V.length : Int) := by omega
                  have hqk : (0 : Int) ≤ (q : Int) := by omega
                  clear hown hb9 hc2 hyl hvb
                  go_wp2_with fail
                  refine Calls.mono (CF.out _) ?_
                  rintro e w6 ⟨rfl, rfl⟩
                  go_wp2_with (at_builtin; refine wpList_append_own _ rfl (.tmp 74) (.tmp 80) 26 rfl w5'.heap.size 9 j0 (.string ⟨#[]⟩) 1 16 Tryz.underlying26 ji jz0 jz1 jz2 rfl (by decide) _ _ _ rfl (World.ownsRow.alloc HO.out _) ⟨wr.heap.size, 0, none⟩ 1 1 [.string ⟨fy.toArray⟩] rfl rfl (cell_one_new _ _ _) (one_one _ rfl) (by unfold maxLen; omega) (by omega) (by simp; omega) ?_; intro v1' w1' hown1 hgrow1 _)
                  have HN := (show Hid (OwnS w1' w5'.heap.size v1' (toB ((V.take (q + 1)).map foldL)) ∧ Below w5'.heap.size w5' w1') from by
                    refine ⟨?_, (HB9.out.alloc hsz9 _).grown hgrow1 (by simp; omega) (fun j hj => (World.ownsRow.lt HO.out j hj).1)⟩
                    rw [HT2.out]
                    exact ownS_more hown1)
                  clear hown1 hgrow1 CF
                  go_wp2
                  go_roundw
                  case rel => exact ⟨q + 1, by omega, by go_num, HN.out.1, HN.out.2⟩
                  case measure => simp [intOf]; omega
              · obtain rfl : q = V.length := by omega
                rw [List.take_length] at hown
                obtain ⟨a6, c6, rfl, hS6⟩ := hown.strs
                have hb6 := HB5.out.trans (hb9.mono HB5.out.size)
                have hbW6 := HR.out.1.trans (hb6.mono HR.out.1.size)
                have HB6 := (show Hid (Below W.heap.size W wr) from hbW6)
                have c1 := HWX.out wr hb6
                have hbl6 := block_lt_of_cell c1
                have e6 : (toB (V.map foldL)).length = V.length := by rw [toB_len, List.length_map]
                rw [e6]
                have CJ := (show Hid (∀ W', Below wr.heap.size wr W' → Calls Tryz.prog 45 #[.slice a6 V.length c6, .string ⟨#[44]⟩] W' fun e w' => e = .returned (.string ⟨cx.toArray⟩) ∧ Below W'.heap.size W' w') from fun W' hb' => by
                  have := rjoin_any a6 c6 (V.map foldL) 44 W' (hS6.below hb' (Nat.le_refl _)) (by have := HVB.out; rw [List.length_map]; omega)
                  rw [List.length_map, ← HCV.out] at this
                  exact this)
                have HWZ := (show Hid (∀ w', Below wr.heap.size wr w' → w'.cell? ⟨b, off + k, none⟩ = some (.string ⟨x.toArray⟩)) from fun w' hb' => (hb'.cell (p := ⟨b, off + k, none⟩) hbl6).trans c1)
                have HE := (show Hid ((S ++ ⟨x.toArray⟩ ++ ⟨#[58]⟩ ++ ⟨cx.toArray⟩ ++ ⟨#[10]⟩).data.toList = startL m es cq ++ endL hs (sg.take (k + 1))) from by
                  show _ = _
                  rw [HSN.out, HLN.out]
                  have h2 := HR.out.2
                  simp at h2 ⊢
                  rw [h2]
                  simp)
                clear hown hb9 hS6 hb6 hbW6 hbl6 e6
                go_upto_region 16 with fail
                refine wp_region_held_drew (S := fun w' => Below wr.heap.size wr w' ∧ w'.cell? ⟨b, off + k, none⟩ = some (.string ⟨x.toArray⟩)) (by kernel_rfl) (⟨(Below.refl _ wr).drew, c1⟩) (fun hHeld => ?_)
                refine wpAnyH_take (i := 0) (oi := { dst := some 82, op := Op.move (Operand.tmp 16), type := 9, pos := "stowageref18.go:101", after := #[], guard := none }) (v := ?_) rfl (by kernel_rfl) (by kernel_rfl) (by kernel_rfl) (fun _ _ _ h => h) (Or.inl ⟨by rfl, ?_⟩) (by assumption) ?_
                rotate_left
                · intro w hSw
                  try dsimp only at hSw
                  go_simp
                  all_goals with_reducible rfl
                try simp only [Act.put, List.setIfInBounds_toArray, List.set_cons_zero, List.set_cons_succ]
                refine wpAnyH_take (i := 1) (oi := { dst := some 83, op := Op.move (Operand.tmp 1), type := 26, pos := "stowageref18.go:101", after := #[], guard := none }) (v := ?_) rfl (by kernel_rfl) (by kernel_rfl) (by kernel_rfl) (fun _ _ _ h => h) (Or.inl ⟨by rfl, ?_⟩) (by assumption) ?_
                rotate_left
                · intro w hSw
                  try dsimp only at hSw
                  go_simp
                  all_goals with_reducible rfl
                try simp only [Act.put, List.setIfInBounds_toArray, List.set_cons_zero, List.set_cons_succ]
                refine wpAnyH_take (i := 2) (oi := { dst := some 84, op := Op.move (Operand.tmp 17), type := 3, pos := "stowageref18.go:101", after := #[], guard := none }) (v := ?_) rfl (by kernel_rfl) (by kernel_rfl) (by kernel_rfl) (fun _ _ _ h => h) (Or.inl ⟨by rfl, ?_⟩) (by assumption) ?_
                rotate_left
                · intro w hSw
                  try dsimp only at hSw
                  go_simp
                  all_goals with_reducible rfl
                try simp only [Act.put, List.setIfInBounds_toArray, List.set_cons_zero, List.set_cons_succ]
                refine wpAnyH_take (i := 3) (oi := { dst := some 85, op := Op.indexAddr 26 (Operand.tmp 83) (Operand.tmp 84), type := 0, pos := "stowageref18.go:101", after := #[{ on := 1, ground := Ground.data }, { on := 2, ground := Ground.data }], guard := none }) (v := ?_) rfl (by kernel_rfl) (by kernel_rfl) (by kernel_rfl) (fun _ _ _ h => h) (Or.inl ⟨by rfl, ?_⟩) (by assumption) ?_
                rotate_left
                · intro w hSw
                  try dsimp only at hSw
                  go_simp
                  all_goals with_reducible rfl
                try simp only [Act.put, List.setIfInBounds_toArray, List.set_cons_zero, List.set_cons_succ]
                refine wpAnyH_take (i := 4) (oi := { dst := some 86, op := Op.load 9 (Operand.tmp 85), type := 9, pos := "stowageref18.go:101", after := #[{ on := 3, ground := Ground.data }], guard := none }) (v := ?_) rfl (by kernel_rfl) (by kernel_rfl) (by kernel_rfl) (fun _ _ _ h => h) (Or.inl ⟨by rfl, ?_⟩) (by assumption) ?_
                rotate_left
                · intro w hSw
                  try dsimp only at hSw
                  go_simp
                  all_goals with_reducible rfl
                try simp only [Act.put, List.setIfInBounds_toArray, List.set_cons_zero, List.set_cons_succ]
                refine wpAnyH_take (i := 5) (oi := { dst := some 87, op := Op.binOp BinOp.add 9 (Operand.tmp 82) (Operand.tmp 86) 9, type := 9, pos := "stowageref18.go:101", after := #[{ on := 0, ground := Ground.data }, { on := 4, ground := Ground.data }], guard := none }) (v := ?_) rfl (by kernel_rfl) (by kernel_rfl) (by kernel_rfl) (fun _ _ _ h => h) (Or.inl ⟨by rfl, ?_⟩) (by assumption) ?_
                rotate_left
                · intro w hSw
                  try dsimp only at hSw
                  go_simp
                  all_goals with_reducible rfl
                try simp only [Act.put, List.setIfInBounds_toArray, List.set_cons_zero, List.set_cons_succ]
                refine wpAnyH_take (i := 6) (oi := { dst := some 88, op := Op.binOp BinOp.add 9 (Operand.tmp 87) (Operand.const (Value.string { data := #[58] })) 9, type := 9, pos := "stowageref18.go:101", after := #[{ on := 5, ground := Ground.data }], guard := none }) (v := ?_) rfl (by kernel_rfl) (by kernel_rfl) (by kernel_rfl) (fun _ _ _ h => h) (Or.inl ⟨by rfl, ?_⟩) (by assumption) ?_
                rotate_left
                · intro w hSw
                  try dsimp only at hSw
                  go_simp
                  all_goals with_reducible rfl
                try simp only [Act.put, List.setIfInBounds_toArray, List.set_cons_zero, List.set_cons_succ]
                refine wpAnyH_take (i := 7) (oi := { dst := some 89, op := Op.move (Operand.tmp 19), type := 26, pos := "stowageref18.go:101", after := #[], guard := none }) (v := ?_) rfl (by kernel_rfl) (by kernel_rfl) (by kernel_rfl) (fun _ _ _ h => h) (Or.inl ⟨by rfl, ?_⟩) (by assumption) ?_
                rotate_left
                · intro w hSw
                  try dsimp only at hSw
                  go_simp
                  all_goals with_reducible rfl
                try simp only [Act.put, List.setIfInBounds_toArray, List.set_cons_zero, List.set_cons_succ]
                refine wpAnyH_ready (rs := [8]) (by kernel_rfl) (by simp) ?_
                refine AllReadyH.cons (o := { dst := some 90, op := Op.call { callee := Callee.value (Operand.func 45), args := #[Operand.tmp 89, Operand.const (Value.string { data := #[44] })], argTypes := #[26, 9] }, type := 9, pos := "stowageref18.go:101", after := #[{ on := 7, ground := Ground.data }], guard := none }) rfl (fun K0 hK => ?_) AllReadyH.nil
                go_simp
                go_at_call 45
                refine Calls.mono (CJ.out _ ((Below.refl _ wr).drew)) ?_
                rintro e w10 ⟨rfl, hb10⟩
                have hb10 : Below wr.heap.size wr w10 := (Below.refl wr.heap.size wr).drew.trans hb10
                refine hK.out _ _ ⟨hb10, HWZ.out w10 hb10⟩ (fun hHeld => ?_)
                clear hK K0
                try simp only [Act.put, List.setIfInBounds_toArray, List.set_cons_zero, List.set_cons_succ]
                refine wpAnyH_take (i := 9) (oi := { dst := some 91, op := Op.binOp BinOp.add 9 (Operand.tmp 88) (Operand.tmp 90) 9, type := 9, pos := "stowageref18.go:101", after := #[{ on := 6, ground := Ground.data }, { on := 8, ground := Ground.data }], guard := none }) (v := ?_) rfl (by kernel_rfl) (by kernel_rfl) (by kernel_rfl) (fun _ _ _ h => h) (Or.inl ⟨by rfl, ?_⟩) (by assumption) ?_
                rotate_left
                · intro w hSw
                  try dsimp only at hSw
                  go_simp
                  all_goals with_reducible rfl
                try simp only [Act.put, List.setIfInBounds_toArray, List.set_cons_zero, List.set_cons_succ]
                refine wpAnyH_take (i := 10) (oi := { dst := some 92, op := Op.binOp BinOp.add 9 (Operand.tmp 91) (Operand.const (Value.string { data := #[10] })) 9, type := 9, pos := "stowageref18.go:101", after := #[{ on := 9, ground := Ground.data }], guard := none }) (v := ?_) rfl (by kernel_rfl) (by kernel_rfl) (by kernel_rfl) (fun _ _ _ h => h) (Or.inl ⟨by rfl, ?_⟩) (by assumption) ?_
                rotate_left
                · intro w hSw
                  try dsimp only at hSw
                  go_simp
                  all_goals with_reducible rfl
                try simp only [Act.put, List.setIfInBounds_toArray, List.set_cons_zero, List.set_cons_succ]
                refine wpAnyH_take (i := 11) (oi := { dst := some 16, op := Op.assign (Operand.tmp 92), type := 9, pos := "stowageref18.go:101", after := #[{ on := 10, ground := Ground.data }, { on := 8, ground := Ground.chain }, { on := 0, ground := Ground.phase }, { on := 1, ground := Ground.phase }, { on := 2, ground := Ground.phase }, { on := 3, ground := Ground.phase }, { on := 4, ground := Ground.phase }, { on := 5, ground := Ground.phase }, { on := 6, ground := Ground.phase }, { on := 7, ground := Ground.phase }, { on := 8, ground := Ground.phase }, { on := 9, ground := Ground.phase }, { on := 10, ground := Ground.phase }], guard := none }) (v := ?_) rfl (by kernel_rfl) (by kernel_rfl) (by kernel_rfl) (fun _ _ _ h => h) (Or.inl ⟨by rfl, ?_⟩) (by assumption) ?_
                rotate_left
                · intro w hSw
                  try dsimp only at hSw
                  go_simp
                  all_goals with_reducible rfl
                try simp only [Act.put, List.setIfInBounds_toArray, List.set_cons_zero, List.set_cons_succ]
                refine wpAnyH_done (by kernel_rfl) ?_ _
                go_wp2
                go_roundw
                case rel => exact ⟨k + 1, _, by omega, by go_num, rfl, HE.out, HB6.out.trans (hb10.mono HB6.out.size)⟩
                case measure => simp [intOf]; omega
        · obtain rfl : k = sg.length := by omega
          rw [List.take_length] at hS hsS
          have hjl := HI.out.2.2.2
          have hsg := HI.out.1.sg
          have CJ := (show Hid _ from rjoin_any sa scap sg 59 wr X4 (by omega))
          have HEQ := (show Hid ((S ++ ⟨#[10]⟩ ++ ⟨(Lib.join sg [59]).toArray⟩ ++ ⟨#[10]⟩ ++ ⟨pl.toArray⟩) = ⟨T.toArray⟩) from by
            show _ = _
            apply ByteArray.ext
            apply Array.toList_inj.mp
            rw [H0.out.1]
            simp at hS ⊢
            rw [hS]
            simp)
          generalize Lib.join sg [59] = js at *
          have s1 : ¬ 9223372036854775807 < S.size + 1 := by omega
          have s2 : ¬ 9223372036854775807 < S.size + 1 + js.length := by omega
          have s3 : ¬ 9223372036854775807 < S.size + 1 + js.length + 1 := by omega
          have s4 : ¬ 9223372036854775807 < S.size + 1 + js.length + 1 + pl.length := by omega
          clear hSz hsl hTl hTi hel hsS hS hb X2 X3 X4 hjl hsg
          go_wp2_with fail
          refine Calls.mono CJ.out ?_
          rintro e w10 ⟨rfl, hb10⟩
          have HB10 := (show Hid (Below W.heap.size W w10) from HR.out.1.trans (hb10.mono HR.out.1.size))
          clear CJ hb10
          go_wp2
          go_ret2
          rw [HF.out.1, HF.out.2, ← HEQ.out]
          exact ⟨rfl, HW.out.trans (HB10.out.mono HW.out.size)⟩
end Go.Proofs.YtnmffehmjgknkaaGreatDoor

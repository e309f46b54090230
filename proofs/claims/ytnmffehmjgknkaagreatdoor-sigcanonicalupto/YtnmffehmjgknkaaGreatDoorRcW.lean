/-
  The document's canonical query: the walk.
-/
import Derived.Test.YtnmffehmjgknkaaGreatDoorRunR
namespace Go.Proofs.YtnmffehmjgknkaaGreatDoor
open Go.RowKit
open Ch (escL uneV uneOk une escL_len)

set_option maxRecDepth 20000 in
set_option maxHeartbeats 4000000 in
theorem rquery41 (tg : List UInt8) (pre : Bool) (w : World) (htl : tg.length ≤ 4194304) :
    Calls Tryz.prog 41 #[.string ⟨tg.toArray⟩, .bool pre] w fun e w' => e = .returned (.tuple #[.string ⟨(cqV (prL tg pre)).toArray⟩, .bool ((prL tg pre).all okP)]) ∧ Below w.heap.size w w' := by
  obtain ⟨i0, hi, hz0, hz1, hz2⟩ := info_parts info61
  obtain ⟨D, hD⟩ : ∃ D, D = qryL tg := ⟨_, rfl⟩
  have htD : tot D ≤ 8388610 := by rw [hD]; have := tot_qry tg; omega
  have hDl : D.length ≤ 8388610 := by have := tot_len D; omega
  obtain ⟨cv, hcv⟩ : ∃ cv, cv = cqV (prL tg pre) := ⟨_, rfl⟩
  obtain ⟨cb, hcb⟩ : ∃ cb, cb = (prL tg pre).all okP := ⟨_, rfl⟩
  have HV := (show Hid (cv = cqV (D.filter (keepP pre)) ∧ cb = (D.filter (keepP pre)).all okP) from ⟨by rw [hcv, prL_keep, hD], by rw [hcb, prL_keep, hD]⟩)
  rw [← hcv, ← hcb]
  have HQ := (show Hid _ from refQuery_any tg w (by omega))
  rw [← hD] at HQ
  clear hcv hcb hD
  go_enter Tryz.func41, Tryz.ntmps41
  go_wp2_with fail
  refine Calls.mono HQ.out ?_
  rintro e w1 ⟨v1, rfl, ho1, hb1⟩
  obtain ⟨a1, c1, rfl, hH1⟩ := own_hdrs ho1
  have H1 := (show Hid (Hdrs w1 a1 D ∧ Below w.heap.size w w1 ∧ tot D ≤ 8388610) from ⟨hH1, hb1, htD⟩)
  have hsz1 := hb1.size
  clear HQ ho1 hH1 hb1 htD
  go_wp2
  go_loopw [8, 9] (fun v i wr => ∃ (k : Nat) (A : List Hd), k ≤ D.length ∧ i = .int .i64 k ∧ wr.ownsRow w1.heap.size 61 2 v A.length (hcs A) ∧ Below w1.heap.size w1 wr ∧ Srt A ∧ A.Perm (((D.take k).filter (keepP pre)).map escP) ∧ ((D.take k).filter (keepP pre)).all okP = true) (fun _ i _ => D.length - (intOf i).toNat)
  case atStart => exact ⟨0, [], Nat.zero_le _, rfl, World.ownsRow_nil _ _ _ _, Below.refl _ _, List.Pairwise.nil, List.Perm.nil, rfl⟩
  case round =>
    obtain ⟨k, A, hk, rfl, hown, hb, hsrt, hprm, hall⟩ := hrel
    obtain ⟨a8, c8, rfl⟩ := own_slice hown
    have hsz := hb.size
    have HR := (show Hid (wr.ownsRow w1.heap.size 61 2 (.slice a8 A.length c8) A.length (hcs A) ∧ Below w1.heap.size w1 wr ∧ Srt A ∧ A.Perm (((D.take k).filter (keepP pre)).map escP) ∧ ((D.take k).filter (keepP pre)).all okP = true) from ⟨hown, hb, hsrt, hprm, hall⟩)
    have hAl : A.length ≤ 8388610 := by
      have h1 := hprm.length_eq
      have h2 := List.length_filter_le (keepP pre) (D.take k)
      rw [List.length_map] at h1
      rw [List.length_take] at h2
      omega
    by_cases hlt : k < D.length
    · rcases H1.out.1.below hb (Nat.le_refl _) with hnil | ⟨b, off, rfl, hbs, hc⟩
      · rw [hnil] at hlt; simp at hlt
      · obtain ⟨c1', c2'⟩ := hc k hlt
        have hxl := tot_mem (List.getElem_mem hlt)
        have htD := H1.out.2.2
        have HT := (show Hid (D.take (k + 1) = D.take k ++ [D[k]]) from List.take_succ_eq_append_getElem hlt)
        have HAL := (show Hid (keepP pre D[k] = true → okP D[k] = false → (D.filter (keepP pre)).all okP = false) from fun h1 h2 => by
          cases hh : (D.filter (keepP pre)).all okP with
          | false => rfl
          | true => rw [List.all_eq_true.mp hh _ (List.mem_filter.mpr ⟨List.getElem_mem hlt, h1⟩)] at h2; simp at h2)
        have HXD := (show Hid (∀ w', Below wr.heap.size wr w' → w'.cell? ⟨b, off + k * 2, none⟩ = some (.string ⟨(D[k]).1.toArray⟩) ∧ w'.cell? ⟨b, off + k * 2 + 1, none⟩ = some (.string ⟨(D[k]).2.toArray⟩)) from fun w' hb' => ⟨(hb'.cell (p := ⟨b, off + k * 2, none⟩) hbs).trans c1', (hb'.cell (p := ⟨b, off + k * 2 + 1, none⟩) hbs).trans c2'⟩)
        generalize D[k] = x at *
        have hki : (k : Int) < (D.length : Int) := by omega
        have hkk : (0 : Int) ≤ (k : Int) := by omega
        have C1 := (show Hid (∀ W, Calls Tryz.prog 40 #[.string ⟨x.1.toArray⟩] W fun e w' => e = .returned (.tuple #[.string ⟨(uneV x.1).toArray⟩, .bool (uneOk x.1)]) ∧ Below W.heap.size W w') from fun W => une40 x.1 W (by omega))
        have C2 := (show Hid (∀ W, Calls Tryz.prog 40 #[.string ⟨x.2.toArray⟩] W fun e w' => e = .returned (.tuple #[.string ⟨(uneV x.2).toArray⟩, .bool (uneOk x.2)]) ∧ Below W.heap.size W w') from fun W => une40 x.2 W (by omega))
        have l1 := uneV_len x.1
        have l2 := uneV_len x.2
        have C3 := (show Hid (∀ W, Calls Tryz.prog 42 #[.string ⟨(uneV x.1).toArray⟩, .bool false] W fun e w' => e = .returned (.string ⟨(escP x).1.toArray⟩) ∧ Below W.heap.size W w') from fun W => esc42 (uneV x.1) false W (by omega))
        have C4 := (show Hid (∀ W, Calls Tryz.prog 42 #[.string ⟨(uneV x.2).toArray⟩, .bool false] W fun e w' => e = .returned (.string ⟨(escP x).2.toArray⟩) ∧ Below W.heap.size W w') from fun W => esc42 (uneV x.2) false W (by omega))
        have HOK := (show Hid (okP x = (uneOk x.1 && uneOk x.2)) from rfl)
        have HFK := (show Hid (keepP pre x = true → ((D.take (k + 1)).filter (keepP pre)).map escP = ((D.take k).filter (keepP pre)).map escP ++ [escP x] ∧ ((D.take (k + 1)).filter (keepP pre)).all okP = okP x) from fun h => by
          rw [HT.out, List.filter_append, List.filter_cons_of_pos h, List.map_append, List.all_append, HR.out.2.2.2.2]
          simp)
        have HFN := (show Hid (keepP pre x = false → (D.take (k + 1)).filter (keepP pre) = (D.take k).filter (keepP pre)) from fun h => by
          rw [HT.out, List.filter_append, List.filter_cons_of_neg (by rw [h]; simp)]
          simp)
        generalize uneOk x.1 = ok1 at *
        generalize uneOk x.2 = ok2 at *
        generalize uneV x.1 = nm at *
        generalize uneV x.2 = vl at *
        generalize escP x = pp at *
        clear l1 l2 hxl htD hown hb hsrt hprm hall hc
        go_wp2_with fail
        refine Calls.mono (C1.out _) ?_
        rintro e w2 ⟨rfl, hb2⟩
        obtain ⟨d1, d2⟩ := HXD.out w2 hb2
        have H2 := (show Hid (Below wr.heap.size wr w2) from hb2)
        clear C1 c1' c2' hb2
        go_wp2_with fail
        refine Calls.mono (C2.out _) ?_
        rintro e w3 ⟨rfl, hb3⟩
        have H3 := (show Hid (Below wr.heap.size wr w3) from H2.out.trans (hb3.mono H2.out.size))
        obtain ⟨g1, g2⟩ := HXD.out w3 H3.out
        clear C2 d1 d2 hb3
        cases pre with
        | false =>
          have HF0 := (show Hid (keepP false x = true) from rfl)
          cases ok1 with
          | false =>
            have HF := (show Hid (cb = false ∧ cv = []) from by
              have h1 := HAL.out HF0.out (by rw [HOK.out]; rfl)
              refine ⟨HV.out.2.trans h1, HV.out.1.trans ?_⟩
              rw [cqV, h1]; rfl)
            clear HAL HOK HFK HFN HF0
            go_wp2
            go_ret2
            rw [HF.out.1, HF.out.2]
            exact ⟨rfl, H1.out.2.1.trans ((HR.out.2.1.trans (H3.out.mono HR.out.2.1.size)).mono hsz1)⟩
          | true =>
            cases ok2 with
            | false =>
              have HF := (show Hid (cb = false ∧ cv = []) from by
                have h1 := HAL.out HF0.out (by rw [HOK.out]; rfl)
                refine ⟨HV.out.2.trans h1, HV.out.1.trans ?_⟩
                rw [cqV, h1]; rfl)
              clear HAL HOK HFK HFN HF0
              go_wp2
              go_ret2
              rw [HF.out.1, HF.out.2]
              exact ⟨rfl, H1.out.2.1.trans ((HR.out.2.1.trans (H3.out.mono HR.out.2.1.size)).mono hsz1)⟩
            | true =>
              have HFF := (show Hid (((D.take (k + 1)).filter (keepP false)).map escP = ((D.take k).filter (keepP false)).map escP ++ [pp] ∧ ((D.take (k + 1)).filter (keepP false)).all okP = true) from by
                have := HFK.out HF0.out
                rw [HOK.out] at this
                exact this)
              clear HAL HOK HFK HFN HF0
              go_wp2_with fail
              refine Calls.mono (C3.out _) ?_
              rintro e w4 ⟨rfl, hb4⟩
              have H4 := (show Hid (Below wr.heap.size wr w4) from H3.out.trans (hb4.mono H3.out.size))
              clear C3 hb4 g1 g2
              go_wp2_with fail
              refine Calls.mono (C4.out _) ?_
              rintro e w5 ⟨rfl, hb5⟩
              have H5 := (show Hid (w5.ownsRow w1.heap.size 61 2 (.slice a8 A.length c8) A.length (hcs A) ∧ Below w1.heap.size w1 w5) from by
                have h5 := H4.out.trans (hb5.mono H4.out.size)
                exact ⟨own_of_below2 HR.out.1 h5, HR.out.2.1.trans (h5.mono HR.out.2.1.size)⟩)
              clear C4 hb5 H2 H3 H4 HXD
              go_upto_region 12 with fail
              obtain ⟨W6, hW6⟩ : ∃ W6, W6 = w5.alloc (.cells #[.string ⟨pp.1.toArray⟩, .string ⟨pp.2.toArray⟩] 61) := ⟨_, rfl⟩
              obtain ⟨P, hP⟩ : ∃ P, P = w5.heap.size := ⟨_, rfl⟩
              have nP : W6.heap[P]? = some (.cells #[.string ⟨pp.1.toArray⟩, .string ⟨pp.2.toArray⟩] 61 (0, 0)) := by rw [hW6, hP]; exact heap_alloc_new _ _
              have p0 : W6.cell? ⟨P, 0, none⟩ = some (.string ⟨pp.1.toArray⟩) := by have := cell_blk nP 0; simpa using this
              have p1 : W6.cell? ⟨P, 1, none⟩ = some (.string ⟨pp.2.toArray⟩) := by have := cell_blk nP 1; simpa using this
              have H6 := (show Hid (W6.ownsRow w1.heap.size 61 2 (.slice a8 A.length c8) A.length (hcs A) ∧ Below w1.heap.size w1 W6 ∧ W6.heap[P]? = some (.cells #[.string ⟨pp.1.toArray⟩, .string ⟨pp.2.toArray⟩] 61 (0, 0)) ∧ (∀ j, (Value.slice a8 A.length c8).ownBlock = some j → j < P)) from
                ⟨by rw [hW6]; exact World.ownsRow.alloc H5.out.1 _, by rw [hW6]; exact H5.out.2.alloc H5.out.2.size _, nP, fun j hj => by rw [hP]; exact (World.ownsRow.lt H5.out.1 j hj).2⟩)
              have hsz6 := H6.out.2.1.size
              rw [← hW6, ← hP]
              clear hW6 hP nP H5
              go_wp2_with (at_builtin; refine wpList_append_own _ rfl (.tmp 69) (.tmp 71) 22 rfl w1.heap.size 61 i0 (.agg #[.string ⟨#[]⟩, .string ⟨#[]⟩]) 2 32 Tryz.underlying22 hi hz0 hz1 hz2 rfl (by decide) _ A.length _ rfl (World.ownsRow.alloc H6.out.1 _) ⟨W6.heap.size, 0, none⟩ 1 1 [.string ⟨pp.1.toArray⟩, .string ⟨pp.2.toArray⟩] rfl rfl (cell_two_new _ _ _ _) (two_one _ _) (by unfold maxLen; omega) (by omega) (by simp; omega) ?_; intro v7 w7 hown7 hgrow7 _)
              obtain ⟨g7, c7, H7⟩ : ∃ (g7 c7 : Nat), Hid (v7 = .slice (some ⟨g7, 0, none⟩) (A.length + 1) c7 ∧ w7.ownsRow w1.heap.size 61 2 (.slice (some ⟨g7, 0, none⟩) (A.length + 1) c7) (A.length + 1) (hcs (holeL A pp A.length)) ∧ Below w1.heap.size w1 w7 ∧ w7.cell? ⟨P, 0, none⟩ = some (.string ⟨pp.1.toArray⟩) ∧ w7.cell? ⟨P, 1, none⟩ = some (.string ⟨pp.2.toArray⟩) ∧ w1.heap.size ≤ g7 ∧ (0 < A.length → P ≠ g7)) := by
                have hPl := blk_lt H6.out.2.2.1
                have hbl : w7.heap[P]? = some (.cells #[.string ⟨pp.1.toArray⟩, .string ⟨pp.2.toArray⟩] 61 (0, 0)) := by
                  rw [hgrow7.block P (by simp; omega) (fun e => by have := H6.out.2.2.2 P e.symm; omega)]
                  exact (((Below.refl _ W6).alloc (Nat.le_refl _) _).block P hPl).trans H6.out.2.2.1
                have hbw : Below w1.heap.size w1 w7 := (H6.out.2.1.alloc hsz6 _).grown hgrow7 (by simp; omega) (fun j hj => (World.ownsRow.lt H6.out.1 j hj).1)
                rcases hown7.2 with ⟨_, hz⟩ | ⟨g7, c7, cur, hv, hg, hh, hnc, hcm, hcs', htk⟩
                · omega
                · refine ⟨g7, c7, hv, ?_, hbw, by have := cell_blk hbl 0; simpa using this, by have := cell_blk hbl 1; simpa using this, hg, fun h0 e => ?_⟩
                  · rw [← hv, hole_end, hcs_snoc]; exact hown7
                  · rw [← e, hbl] at hh
                    simp only [Option.some.injEq, Obj.cells.injEq] at hh
                    have := congrArg Array.size hh.1
                    simp at this
                    omega
              obtain rfl := H7.out.1
              clear hown7 hgrow7 p0 p1 H6
              go_wp2
              go_loopw [15] (fun kk W' => ∃ (q : Nat) (y : Hd), q ≤ A.length ∧ kk = .int .i64 q ∧ W'.ownsRow w1.heap.size 61 2 (.slice (some ⟨g7, 0, none⟩) (A.length + 1) c7) (A.length + 1) (hcs (holeL A y q)) ∧ Below w1.heap.size w1 W' ∧ W'.cell? ⟨P, 0, none⟩ = some (.string ⟨pp.1.toArray⟩) ∧ W'.cell? ⟨P, 1, none⟩ = some (.string ⟨pp.2.toArray⟩) ∧ (∀ z ∈ A.drop q, ltH pp z)) (fun kk _ => (intOf kk).toNat)
              case atStart => exact ⟨A.length, pp, Nat.le_refl _, rfl, H7.out.2.1, H7.out.2.2.1, H7.out.2.2.2.1, H7.out.2.2.2.2.1, by simp⟩
              case round =>
                obtain ⟨q, y, hq, rfl, hown2, hb2, p0, p1, hlow⟩ := hrel
                have HS := (show Hid (wr.ownsRow w1.heap.size 61 2 (.slice (some ⟨g7, 0, none⟩) (A.length + 1) c7) (A.length + 1) (hcs (holeL A y q)) ∧ Below w1.heap.size w1 wr ∧ (∀ z ∈ A.drop q, ltH pp z)) from ⟨hown2, hb2, hlow⟩)
                by_cases hq0 : q = 0
                · subst hq0
                  obtain ⟨⟨y0, e0⟩, ⟨y1, e1⟩, f0, f1⟩ := own_slots hown2 (hole_len A y 0) (q := 0) (by omega)
                  rw [Nat.zero_mul] at e0 f0
                  rw [Nat.zero_mul, Nat.zero_add] at e1 f1
                  have hA1 : (0 : Int) < (A.length : Int) + 1 := by omega
                  clear hown2 hb2 hlow
                  go_upto_region 14 with fail
                  refine wp_region_held_drew (S := fun w' => w' = wr.drew) (by kernel_rfl) rfl (fun hHeld => ?_)
                  refine wpAnyH_take (i := 0) (oi := { dst := some 73, op := Op.move (Operand.tmp 15), type := 3, pos := "stowageref18.go:58", after := #[], guard := none }) (v := ?_) rfl (by kernel_rfl) (by kernel_rfl) (by kernel_rfl) (fun _ _ _ h => h) (Or.inl ⟨by rfl, ?_⟩) (by assumption) ?_
                  rotate_left
                  · intro w hSw
                    try dsimp only at hSw
                    go_simp
                    all_goals with_reducible rfl
                  try simp only [Act.put, List.setIfInBounds_toArray, List.set_cons_zero, List.set_cons_succ]
                  refine wpAnyH_take (i := 1) (oi := { dst := some 74, op := Op.binOp BinOp.gtr 3 (Operand.tmp 73) (Operand.const (Value.int IntKind.i64 0)) 3, type := 4, pos := "stowageref18.go:58", after := #[{ on := 0, ground := Ground.data }], guard := none }) (v := ?_) rfl (by kernel_rfl) (by kernel_rfl) (by kernel_rfl) (fun _ _ _ h => h) (Or.inl ⟨by rfl, ?_⟩) (by assumption) ?_
                  rotate_left
                  · intro w hSw
                    try dsimp only at hSw
                    go_simp
                    all_goals with_reducible rfl
                  try simp only [Act.put, List.setIfInBounds_toArray, List.set_cons_zero, List.set_cons_succ]
                  refine wpAnyH_take (i := 2) (oi := { dst := some 75, op := Op.move (Operand.tmp 74), type := 4, pos := "stowageref18.go:58", after := #[{ on := 1, ground := Ground.data }], guard := none }) (v := ?_) rfl (by kernel_rfl) (by kernel_rfl) (by kernel_rfl) (fun _ _ _ h => h) (Or.inl ⟨by rfl, ?_⟩) (by assumption) ?_
                  rotate_left
                  · intro w hSw
                    try dsimp only at hSw
                    go_simp
                    all_goals with_reducible rfl
                  try simp only [Act.put, List.setIfInBounds_toArray, List.set_cons_zero, List.set_cons_succ]
                  refine wpAnyH_take (i := 3) (oi := { dst := some 76, op := Op.load 61 (Operand.tmp 14), type := 61, pos := "stowageref18.go:58", after := #[{ on := 2, ground := Ground.guard }], guard := some (2, true) }) (v := undef) rfl (by kernel_rfl) (by kernel_rfl) (by kernel_rfl) (fun _ _ _ h => h) (Or.inr ⟨by rfl, rfl⟩) (by assumption) ?_
                  try simp only [Act.put, List.setIfInBounds_toArray, List.set_cons_zero, List.set_cons_succ]
                  refine wpAnyH_take (i := 4) (oi := { dst := some 77, op := Op.move (Operand.tmp 8), type := 22, pos := "stowageref18.go:58", after := #[{ on := 2, ground := Ground.guard }], guard := some (2, true) }) (v := undef) rfl (by kernel_rfl) (by kernel_rfl) (by kernel_rfl) (fun _ _ _ h => h) (Or.inr ⟨by rfl, rfl⟩) (by assumption) ?_
                  try simp only [Act.put, List.setIfInBounds_toArray, List.set_cons_zero, List.set_cons_succ]
                  refine wpAnyH_take (i := 5) (oi := { dst := some 78, op := Op.move (Operand.tmp 15), type := 3, pos := "stowageref18.go:58", after := #[{ on := 2, ground := Ground.guard }], guard := some (2, true) }) (v := undef) rfl (by kernel_rfl) (by kernel_rfl) (by kernel_rfl) (fun _ _ _ h => h) (Or.inr ⟨by rfl, rfl⟩) (by assumption) ?_
                  try simp only [Act.put, List.setIfInBounds_toArray, List.set_cons_zero, List.set_cons_succ]
                  refine wpAnyH_take (i := 6) (oi := { dst := some 79, op := Op.binOp BinOp.sub 3 (Operand.tmp 78) (Operand.const (Value.int IntKind.i64 1)) 3, type := 3, pos := "stowageref18.go:58", after := #[{ on := 5, ground := Ground.data }, { on := 2, ground := Ground.guard }], guard := some (2, true) }) (v := undef) rfl (by kernel_rfl) (by kernel_rfl) (by kernel_rfl) (fun _ _ _ h => h) (Or.inr ⟨by rfl, rfl⟩) (by assumption) ?_
                  try simp only [Act.put, List.setIfInBounds_toArray, List.set_cons_zero, List.set_cons_succ]
                  refine wpAnyH_take (i := 7) (oi := { dst := some 80, op := Op.indexAddr 22 (Operand.tmp 77) (Operand.tmp 79), type := 0, pos := "stowageref18.go:58", after := #[{ on := 4, ground := Ground.data }, { on := 6, ground := Ground.data }, { on := 2, ground := Ground.guard }], guard := some (2, true) }) (v := undef) rfl (by kernel_rfl) (by kernel_rfl) (by kernel_rfl) (fun _ _ _ h => h) (Or.inr ⟨by rfl, rfl⟩) (by assumption) ?_
                  try simp only [Act.put, List.setIfInBounds_toArray, List.set_cons_zero, List.set_cons_succ]
                  refine wpAnyH_take (i := 8) (oi := { dst := some 81, op := Op.load 61 (Operand.tmp 80), type := 61, pos := "stowageref18.go:58", after := #[{ on := 7, ground := Ground.data }, { on := 2, ground := Ground.guard }], guard := some (2, true) }) (v := undef) rfl (by kernel_rfl) (by kernel_rfl) (by kernel_rfl) (fun _ _ _ h => h) (Or.inr ⟨by rfl, rfl⟩) (by assumption) ?_
                  try simp only [Act.put, List.setIfInBounds_toArray, List.set_cons_zero, List.set_cons_succ]
                  refine wpAnyH_take (i := 9) (oi := { dst := some 82, op := Op.call { callee := Callee.value (Operand.func 102), args := #[Operand.tmp 76, Operand.tmp 81], argTypes := #[61, 61] }, type := 4, pos := "stowageref18.go:58", after := #[{ on := 3, ground := Ground.data }, { on := 8, ground := Ground.data }, { on := 2, ground := Ground.chain }, { on := 2, ground := Ground.guard }], guard := some (2, true) }) (v := undef) rfl (by kernel_rfl) (by kernel_rfl) (by kernel_rfl) (fun _ _ _ h => h) (Or.inr ⟨by rfl, rfl⟩) (by assumption) ?_
                  try simp only [Act.put, List.setIfInBounds_toArray, List.set_cons_zero, List.set_cons_succ]
                  refine wpAnyH_take (i := 10) (oi := { dst := some 83, op := Op.pick (Operand.tmp 75) (Operand.tmp 82) (Operand.const (Value.bool false)), type := 4, pos := "stowageref18.go:58", after := #[{ on := 2, ground := Ground.data }, { on := 9, ground := Ground.data }], guard := none }) (v := ?_) rfl (by kernel_rfl) (by kernel_rfl) (by kernel_rfl) (fun _ _ _ h => h) (Or.inl ⟨by rfl, ?_⟩) (by assumption) ?_
                  rotate_left
                  · intro w hSw
                    try dsimp only at hSw
                    go_simp
                    all_goals with_reducible rfl
                  try simp only [Act.put, List.setIfInBounds_toArray, List.set_cons_zero, List.set_cons_succ]
                  refine wpAnyH_done (by kernel_rfl) ?_ _
                  go_upto_region 17 with fail
                  go_wp2
                  go_roundw
                  case rel =>
                    refine ⟨k + 1, holeL A pp 0, by omega, by go_num, ?_, (HS.out.2.1.drew.setCell H7.out.2.2.2.2.2.1 _).setCell H7.out.2.2.2.2.2.1 _, ins_srt HR.out.2.2.1 (Nat.zero_le _) HS.out.2.2 (fun h => absurd h (Nat.lt_irrefl 0)), ?_, HFF.out.2⟩
                    · rw [hole_len, ← hole_set (y := y) (Nat.zero_le _)]
                      exact own_set (w := wr.drew) (i := 0) HS.out.1.drew pp
                    · rw [HFF.out.1]
                      exact (ins_perm A pp 0).trans (HR.out.2.2.2.1.append_right _)
                  case measure => simp [intOf]; omega
                · obtain ⟨q, rfl⟩ : ∃ q', q = q' + 1 := ⟨q - 1, by omega⟩
                  have hqA : q < A.length := by omega
                  obtain ⟨z, hz⟩ : ∃ z, z = A[q] := ⟨_, rfl⟩
                  have HZ := (show Hid (z = A[q]) from hz)
                  have hpv : (holeL A y (q + 1))[q]? = some z := by rw [hz]; exact hole_prev (k := q + 1) (by omega) (by omega)
                  have hql : q < (holeL A y (q + 1)).length := by rw [hole_len]; omega
                  have z0 : wr.cell? ⟨g7, q * 2, none⟩ = some (.string ⟨z.1.toArray⟩) := by
                    have h1 := hown2.cellAt (q * 2) (by omega)
                    have h2 := hcs_at (holeL A y (q + 1)) (q * 2) (by omega)
                    rw [show q * 2 / 2 = q by omega, show q * 2 % 2 = 0 by omega, getElem!_pos _ q hql] at h2
                    rw [List.getElem?_eq_getElem hql, Option.some.injEq] at hpv
                    rw [hpv] at h2
                    exact h1.trans h2
                  have z1 : wr.cell? ⟨g7, q * 2 + 1, none⟩ = some (.string ⟨z.2.toArray⟩) := by
                    have h1 := hown2.cellAt (q * 2 + 1) (by omega)
                    have h2 := hcs_at (holeL A y (q + 1)) (q * 2 + 1) (by omega)
                    rw [show (q * 2 + 1) / 2 = q by omega, show (q * 2 + 1) % 2 = 1 by omega, getElem!_pos _ q hql] at h2
                    rw [List.getElem?_eq_getElem hql, Option.some.injEq] at hpv
                    rw [hpv] at h2
                    exact h1.trans h2
                  have hgl := blk_lt_own hown2
                  have hPl := block_lt_of_cell p0
                  have HBX := (show Hid (∀ w', Below wr.heap.size wr w' → w'.cell? ⟨P, 0, none⟩ = some (.string ⟨pp.1.toArray⟩) ∧ w'.cell? ⟨P, 1, none⟩ = some (.string ⟨pp.2.toArray⟩) ∧ w'.cell? ⟨g7, q * 2, none⟩ = some (.string ⟨z.1.toArray⟩) ∧ w'.cell? ⟨g7, q * 2 + 1, none⟩ = some (.string ⟨z.2.toArray⟩)) from fun w' hb' => ⟨(hb'.cell (p := ⟨P, 0, none⟩) hPl).trans p0, (hb'.cell (p := ⟨P, 1, none⟩) hPl).trans p1, (hb'.cell (p := ⟨g7, q * 2, none⟩) hgl).trans z0, (hb'.cell (p := ⟨g7, q * 2 + 1, none⟩) hgl).trans z1⟩)
                  obtain ⟨r, hr⟩ : ∃ r, r = decide (ltH pp z) := ⟨_, rfl⟩
                  have HRR := (show Hid (r = decide (ltH pp z)) from hr)
                  have KB := (show Hid (∀ W', Calls Tryz.prog 102 #[.agg #[.string ⟨pp.1.toArray⟩, .string ⟨pp.2.toArray⟩], .agg #[.string ⟨z.1.toArray⟩, .string ⟨z.2.toArray⟩]] W' fun e w' => e = .returned (.bool r) ∧ Below W'.heap.size W' w') from fun W' => by rw [hr]; exact below_any pp z W')
                  have hqi : (0 : Int) < ((q : Int) + 1) := by omega
                  have hql2 : (q : Int) < ((A.length : Int) + 1) := by omega
                  have hq00 : (0 : Int) ≤ (q : Int) := by omega
                  have hwq : IntKind.i64.wrap (q : Int) = (q : Int) := by rw [IntKind.wrap_i64]; omega
                  have HSL := (show Hid (∀ w', Below wr.heap.size wr w' → (w'.ownsRow w1.heap.size 61 2 (.slice (some ⟨g7, 0, none⟩) (A.length + 1) c7) (A.length + 1) (hcs (holeL A y (q + 1))) ∧ Below w1.heap.size w1 w')) from fun w' hb' => ⟨own_of_below2 HS.out.1 hb', HS.out.2.1.trans (hb'.mono HS.out.2.1.size)⟩)
                  have hq1l : (q : Int) + 1 < ((A.length : Int) + 1) := by omega
                  have hq10 : (0 : Int) ≤ (q : Int) + 1 := by omega
                  clear hown2 hb2 hlow hz hpv hql hgl hPl hr
                  go_upto_region 14 with fail
                  refine wp_region_held_drew (S := fun w' => Below wr.heap.size wr w' ∧ w'.cell? ⟨P, 0, none⟩ = some (.string ⟨pp.1.toArray⟩) ∧ w'.cell? ⟨P, 1, none⟩ = some (.string ⟨pp.2.toArray⟩) ∧ w'.cell? ⟨g7, q * 2, none⟩ = some (.string ⟨z.1.toArray⟩) ∧ w'.cell? ⟨g7, q * 2 + 1, none⟩ = some (.string ⟨z.2.toArray⟩)) (by kernel_rfl) (⟨(Below.refl _ wr).drew, p0, p1, z0, z1⟩) (fun hHeld => ?_)
                  refine wpAnyH_take (i := 0) (oi := { dst := some 73, op := Op.move (Operand.tmp 15), type := 3, pos := "stowageref18.go:58", after := #[], guard := none }) (v := ?_) rfl (by kernel_rfl) (by kernel_rfl) (by kernel_rfl) (fun _ _ _ h => h) (Or.inl ⟨by rfl, ?_⟩) (by assumption) ?_
                  rotate_left
                  · intro w hSw
                    try dsimp only at hSw
                    go_simp
                    all_goals with_reducible rfl
                  try simp only [Act.put, List.setIfInBounds_toArray, List.set_cons_zero, List.set_cons_succ]
                  refine wpAnyH_take (i := 1) (oi := { dst := some 74, op := Op.binOp BinOp.gtr 3 (Operand.tmp 73) (Operand.const (Value.int IntKind.i64 0)) 3, type := 4, pos := "stowageref18.go:58", after := #[{ on := 0, ground := Ground.data }], guard := none }) (v := ?_) rfl (by kernel_rfl) (by kernel_rfl) (by kernel_rfl) (fun _ _ _ h => h) (Or.inl ⟨by rfl, ?_⟩) (by assumption) ?_
                  rotate_left
                  · intro w hSw
                    try dsimp only at hSw
                    go_simp
                    all_goals with_reducible rfl
                  try simp only [Act.put, List.setIfInBounds_toArray, List.set_cons_zero, List.set_cons_succ]
                  refine wpAnyH_take (i := 2) (oi := { dst := some 75, op := Op.move (Operand.tmp 74), type := 4, pos := "stowageref18.go:58", after := #[{ on := 1, ground := Ground.data }], guard := none }) (v := ?_) rfl (by kernel_rfl) (by kernel_rfl) (by kernel_rfl) (fun _ _ _ h => h) (Or.inl ⟨by rfl, ?_⟩) (by assumption) ?_
                  rotate_left
                  · intro w hSw
                    try dsimp only at hSw
                    go_simp
                    all_goals with_reducible rfl
                  try simp only [Act.put, List.setIfInBounds_toArray, List.set_cons_zero, List.set_cons_succ]
                  refine wpAnyH_take (i := 3) (oi := { dst := some 76, op := Op.load 61 (Operand.tmp 14), type := 61, pos := "stowageref18.go:58", after := #[{ on := 2, ground := Ground.guard }], guard := some (2, true) }) (v := ?_) rfl (by kernel_rfl) (by kernel_rfl) (by kernel_rfl) (fun _ _ _ h => h) (Or.inl ⟨by rfl, ?_⟩) (by assumption) ?_
                  rotate_left
                  · intro w hSw
                    try dsimp only at hSw
                    go_simp
                    all_goals with_reducible rfl
                  try simp only [Act.put, List.setIfInBounds_toArray, List.set_cons_zero, List.set_cons_succ]
                  refine wpAnyH_take (i := 4) (oi := { dst := some 77, op := Op.move (Operand.tmp 8), type := 22, pos := "stowageref18.go:58", after := #[{ on := 2, ground := Ground.guard }], guard := some (2, true) }) (v := ?_) rfl (by kernel_rfl) (by kernel_rfl) (by kernel_rfl) (fun _ _ _ h => h) (Or.inl ⟨by rfl, ?_⟩) (by assumption) ?_
                  rotate_left
                  · intro w hSw
                    try dsimp only at hSw
                    go_simp
                    all_goals with_reducible rfl
                  try simp only [Act.put, List.setIfInBounds_toArray, List.set_cons_zero, List.set_cons_succ]
                  refine wpAnyH_take (i := 5) (oi := { dst := some 78, op := Op.move (Operand.tmp 15), type := 3, pos := "stowageref18.go:58", after := #[{ on := 2, ground := Ground.guard }], guard := some (2, true) }) (v := ?_) rfl (by kernel_rfl) (by kernel_rfl) (by kernel_rfl) (fun _ _ _ h => h) (Or.inl ⟨by rfl, ?_⟩) (by assumption) ?_
                  rotate_left
                  · intro w hSw
                    try dsimp only at hSw
                    go_simp
                    all_goals with_reducible rfl
                  try simp only [Act.put, List.setIfInBounds_toArray, List.set_cons_zero, List.set_cons_succ]
                  refine wpAnyH_take (i := 6) (oi := { dst := some 79, op := Op.binOp BinOp.sub 3 (Operand.tmp 78) (Operand.const (Value.int IntKind.i64 1)) 3, type := 3, pos := "stowageref18.go:58", after := #[{ on := 5, ground := Ground.data }, { on := 2, ground := Ground.guard }], guard := some (2, true) }) (v := ?_) rfl (by kernel_rfl) (by kernel_rfl) (by kernel_rfl) (fun _ _ _ h => h) (Or.inl ⟨by rfl, ?_⟩) (by assumption) ?_
                  rotate_left
                  · intro w hSw
                    try dsimp only at hSw
                    go_simp
                    all_goals with_reducible rfl
                  try simp only [Act.put, List.setIfInBounds_toArray, List.set_cons_zero, List.set_cons_succ]
                  refine wpAnyH_take (i := 7) (oi := { dst := some 80, op := Op.indexAddr 22 (Operand.tmp 77) (Operand.tmp 79), type := 0, pos := "stowageref18.go:58", after := #[{ on := 4, ground := Ground.data }, { on := 6, ground := Ground.data }, { on := 2, ground := Ground.guard }], guard := some (2, true) }) (v := ?_) rfl (by kernel_rfl) (by kernel_rfl) (by kernel_rfl) (fun _ _ _ h => h) (Or.inl ⟨by rfl, ?_⟩) (by assumption) ?_
                  rotate_left
                  · intro w hSw
                    try dsimp only at hSw
                    go_simp
                    all_goals with_reducible rfl
                  try simp only [Act.put, List.setIfInBounds_toArray, List.set_cons_zero, List.set_cons_succ]
                  refine wpAnyH_take (i := 8) (oi := { dst := some 81, op := Op.load 61 (Operand.tmp 80), type := 61, pos := "stowageref18.go:58", after := #[{ on := 7, ground := Ground.data }, { on := 2, ground := Ground.guard }], guard := some (2, true) }) (v := ?_) rfl (by kernel_rfl) (by kernel_rfl) (by kernel_rfl) (fun _ _ _ h => h) (Or.inl ⟨by rfl, ?_⟩) (by assumption) ?_
                  rotate_left
                  · intro w hSw
                    try dsimp only at hSw
                    go_simp
                    all_goals with_reducible rfl
                  try simp only [Act.put, List.setIfInBounds_toArray, List.set_cons_zero, List.set_cons_succ]
                  refine wpAnyH_ready (rs := [9]) (by kernel_rfl) (by simp) ?_
                  refine AllReadyH.cons (o := { dst := some 82, op := Op.call { callee := Callee.value (Operand.func 102), args := #[Operand.tmp 76, Operand.tmp 81], argTypes := #[61, 61] }, type := 4, pos := "stowageref18.go:58", after := #[{ on := 3, ground := Ground.data }, { on := 8, ground := Ground.data }, { on := 2, ground := Ground.chain }, { on := 2, ground := Ground.guard }], guard := some (2, true) }) rfl (fun K0 hK => ?_) AllReadyH.nil
                  go_simp
                  go_at_call 102
                  refine Calls.mono (KB.out _) ?_
                  rintro e w8 ⟨rfl, hb8⟩
                  have hb8 : Below wr.heap.size wr w8 := (Below.refl wr.heap.size wr).drew.trans hb8
                  obtain ⟨x0, x1, x2, x3⟩ := HBX.out w8 hb8
                  refine hK.out _ _ ⟨hb8, x0, x1, x2, x3⟩ (fun hHeld => ?_)
                  clear hK K0
                  try simp only [Act.put, List.setIfInBounds_toArray, List.set_cons_zero, List.set_cons_succ]
                  refine wpAnyH_take (i := 10) (oi := { dst := some 83, op := Op.pick (Operand.tmp 75) (Operand.tmp 82) (Operand.const (Value.bool false)), type := 4, pos := "stowageref18.go:58", after := #[{ on := 2, ground := Ground.data }, { on := 9, ground := Ground.data }], guard := none }) (v := ?_) rfl (by kernel_rfl) (by kernel_rfl) (by kernel_rfl) (fun _ _ _ h => h) (Or.inl ⟨by rfl, ?_⟩) (by assumption) ?_
                  rotate_left
                  · intro w hSw
                    try dsimp only at hSw
                    go_simp
                    all_goals with_reducible rfl
                  try simp only [Act.put, List.setIfInBounds_toArray, List.set_cons_zero, List.set_cons_succ]
                  refine wpAnyH_done (by kernel_rfl) ?_ _
                  obtain ⟨n1, n2⟩ := HSL.out w8 hb8
                  have HN := (show Hid (w8.ownsRow w1.heap.size 61 2 (.slice (some ⟨g7, 0, none⟩) (A.length + 1) c7) (A.length + 1) (hcs (holeL A y (q + 1))) ∧ Below w1.heap.size w1 w8) from ⟨n1, n2⟩)
                  obtain ⟨⟨y0, e0⟩, ⟨y1, e1⟩, f0, f1⟩ := own_slots n1 (hole_len A y (q + 1)) (q := q + 1) (by omega)
                  clear hHeld hb8 n1 n2 HSL HBX KB
                  cases r with
                  | false =>
                    have HNL := (show Hid (¬ ltH pp A[q]) from by show ¬ ltH pp A[q]; rw [← HZ.out]; exact of_decide_eq_false HRR.out.symm)
                    clear HRR x2 x3 p0 p1 z0 z1
                    go_upto_region 17 with fail
                    go_wp2
                    go_roundw
                    case rel =>
                      refine ⟨k + 1, holeL A pp (q + 1), by omega, by go_num, ?_, (HN.out.2.setCell H7.out.2.2.2.2.2.1 _).setCell H7.out.2.2.2.2.2.1 _, ins_srt HR.out.2.2.1 (by omega) HS.out.2.2 (fun _ => HNL.out), ?_, HFF.out.2⟩
                      · rw [hole_len, ← hole_set (y := y) (by omega)]
                        exact own_set HN.out.1 (q + 1) pp
                      · rw [HFF.out.1]
                        exact (ins_perm A pp (q + 1)).trans (HR.out.2.2.2.1.append_right _)
                    case measure => simp [intOf]; omega
                  | true =>
                    have HLT := (show Hid (ltH pp A[q]) from by show ltH pp A[q]; rw [← HZ.out]; exact of_decide_eq_true HRR.out.symm)
                    have hPg := H7.out.2.2.2.2.2.2 (by omega)
                    have HPP := (show Hid (w8.cell? ⟨P, 0, none⟩ = some (.string ⟨pp.1.toArray⟩) ∧ w8.cell? ⟨P, 1, none⟩ = some (.string ⟨pp.2.toArray⟩)) from ⟨x0, x1⟩)
                    clear HRR x0 x1 p0 p1 z0 z1
                    go_upto_region 15 with fail
                    go_wp2
                    go_roundw
                    case rel =>
                      refine ⟨q, z, by omega, by go_num, ?_, (HN.out.2.setCell H7.out.2.2.2.2.2.1 _).setCell H7.out.2.2.2.2.2.1 _, ?_, ?_, drop_down (k := q + 1) (by omega) (by omega) HS.out.2.2 HLT.out⟩
                      · have e : holeL A z q = (holeL A y (q + 1)).set (q + 1) z := by rw [HZ.out]; exact (hole_down (k := q + 1) (by omega) (by omega)).symm
                        rw [e]
                        exact own_set HN.out.1 (q + 1) z
                      · exact (cell_two_set hPg _ _ _ _ _).trans HPP.out.1
                      · exact (cell_two_set hPg _ _ _ _ _).trans HPP.out.2
                    case measure => simp [intOf]
        | true =>
          cases hs : (x.1 == sgB) with
          | true =>
            have hs' : (x.1 == [88, 45, 65, 109, 122, 45, 83, 105, 103, 110, 97, 116, 117, 114, 101]) = true := hs
            have HN := (show Hid ((D.take (k + 1)).filter (keepP true) = (D.take k).filter (keepP true)) from HFN.out (by rw [keepP, hs]; rfl))
            have HW3 := (show Hid (w3.ownsRow w1.heap.size 61 2 (.slice a8 A.length c8) A.length (hcs A) ∧ Below w1.heap.size w1 w3) from ⟨own_of_below2 HR.out.1 H3.out, HR.out.2.1.trans (H3.out.mono HR.out.2.1.size)⟩)
            clear hs HAL HOK HFK HFN C3 C4
            go_wp2
            go_roundw
            case rel => exact ⟨k + 1, A, by omega, by go_num, HW3.out.1, HW3.out.2, HR.out.2.2.1, by rw [HN.out]; exact HR.out.2.2.2.1, by rw [HN.out]; exact HR.out.2.2.2.2⟩
            case measure => simp [intOf]; omega
          | false =>
            have hs' : (x.1 == [88, 45, 65, 109, 122, 45, 83, 105, 103, 110, 97, 116, 117, 114, 101]) = false := hs
            have HF0 := (show Hid (keepP true x = true) from by show keepP true x = true; rw [keepP, hs]; rfl)
            clear hs
            cases ok1 with
            | false =>
              have HF := (show Hid (cb = false ∧ cv = []) from by
                have h1 := HAL.out HF0.out (by rw [HOK.out]; rfl)
                refine ⟨HV.out.2.trans h1, HV.out.1.trans ?_⟩
                rw [cqV, h1]; rfl)
              clear HAL HOK HFK HFN HF0
              go_wp2
              go_ret2
              rw [HF.out.1, HF.out.2]
              exact ⟨rfl, H1.out.2.1.trans ((HR.out.2.1.trans (H3.out.mono HR.out.2.1.size)).mono hsz1)⟩
            | true =>
              cases ok2 with
              | false =>
                have HF := (show Hid (cb = false ∧ cv = []) from by
                  have h1 := HAL.out HF0.out (by rw [HOK.out]; rfl)
                  refine ⟨HV.out.2.trans h1, HV.out.1.trans ?_⟩
                  rw [cqV, h1]; rfl)
                clear HAL HOK HFK HFN HF0
                go_wp2
                go_ret2
                rw [HF.out.1, HF.out.2]
                exact ⟨rfl, H1.out.2.1.trans ((HR.out.2.1.trans (H3.out.mono HR.out.2.1.size)).mono hsz1)⟩
              | true =>
                have HFF := (show Hid (((D.take (k + 1)).filter (keepP true)).map escP = ((D.take k).filter (keepP true)).map escP ++ [pp] ∧ ((D.take (k + 1)).filter (keepP true)).all okP = true) from by
                  have := HFK.out HF0.out
                  rw [HOK.out] at this
                  exact this)
                clear HAL HOK HFK HFN HF0
                go_wp2_with fail
                refine Calls.mono (C3.out _) ?_
                rintro e w4 ⟨rfl, hb4⟩
                have H4 := (show Hid (Below wr.heap.size wr w4) from H3.out.trans (hb4.mono H3.out.size))
                clear C3 hb4 g1 g2
                go_wp2_with fail
                refine Calls.mono (C4.out _) ?_
                rintro e w5 ⟨rfl, hb5⟩
                have H5 := (show Hid (w5.ownsRow w1.heap.size 61 2 (.slice a8 A.length c8) A.length (hcs A) ∧ Below w1.heap.size w1 w5) from by
                  have h5 := H4.out.trans (hb5.mono H4.out.size)
                  exact ⟨own_of_below2 HR.out.1 h5, HR.out.2.1.trans (h5.mono HR.out.2.1.size)⟩)
                clear C4 hb5 H2 H3 H4 HXD
                go_upto_region 12 with fail
                obtain ⟨W6, hW6⟩ : ∃ W6, W6 = w5.alloc (.cells #[.string ⟨pp.1.toArray⟩, .string ⟨pp.2.toArray⟩] 61) := ⟨_, rfl⟩
                obtain ⟨P, hP⟩ : ∃ P, P = w5.heap.size := ⟨_, rfl⟩
                have nP : W6.heap[P]? = some (.cells #[.string ⟨pp.1.toArray⟩, .string ⟨pp.2.toArray⟩] 61 (0, 0)) := by rw [hW6, hP]; exact heap_alloc_new _ _
                have p0 : W6.cell? ⟨P, 0, none⟩ = some (.string ⟨pp.1.toArray⟩) := by have := cell_blk nP 0; simpa using this
                have p1 : W6.cell? ⟨P, 1, none⟩ = some (.string ⟨pp.2.toArray⟩) := by have := cell_blk nP 1; simpa using this
                have H6 := (show Hid (W6.ownsRow w1.heap.size 61 2 (.slice a8 A.length c8) A.length (hcs A) ∧ Below w1.heap.size w1 W6 ∧ W6.heap[P]? = some (.cells #[.string ⟨pp.1.toArray⟩, .string ⟨pp.2.toArray⟩] 61 (0, 0)) ∧ (∀ j, (Value.slice a8 A.length c8).ownBlock = some j → j < P)) from
                  ⟨by rw [hW6]; exact World.ownsRow.alloc H5.out.1 _, by rw [hW6]; exact H5.out.2.alloc H5.out.2.size _, nP, fun j hj => by rw [hP]; exact (World.ownsRow.lt H5.out.1 j hj).2⟩)
                have hsz6 := H6.out.2.1.size
                rw [← hW6, ← hP]
                clear hW6 hP nP H5
                go_wp2_with (at_builtin; refine wpList_append_own _ rfl (.tmp 69) (.tmp 71) 22 rfl w1.heap.size 61 i0 (.agg #[.string ⟨#[]⟩, .string ⟨#[]⟩]) 2 32 Tryz.underlying22 hi hz0 hz1 hz2 rfl (by decide) _ A.length _ rfl (World.ownsRow.alloc H6.out.1 _) ⟨W6.heap.size, 0, none⟩ 1 1 [.string ⟨pp.1.toArray⟩, .string ⟨pp.2.toArray⟩] rfl rfl (cell_two_new _ _ _ _) (two_one _ _) (by unfold maxLen; omega) (by omega) (by simp; omega) ?_; intro v7 w7 hown7 hgrow7 _)
                obtain ⟨g7, c7, H7⟩ : ∃ (g7 c7 : Nat), Hid (v7 = .slice (some ⟨g7, 0, none⟩) (A.length + 1) c7 ∧ w7.ownsRow w1.heap.size 61 2 (.slice (some ⟨g7, 0, none⟩) (A.length + 1) c7) (A.length + 1) (hcs (holeL A pp A.length)) ∧ Below w1.heap.size w1 w7 ∧ w7.cell? ⟨P, 0, none⟩ = some (.string ⟨pp.1.toArray⟩) ∧ w7.cell? ⟨P, 1, none⟩ = some (.string ⟨pp.2.toArray⟩) ∧ w1.heap.size ≤ g7 ∧ (0 < A.length → P ≠ g7)) := by
                  have hPl := blk_lt H6.out.2.2.1
                  have hbl : w7.heap[P]? = some (.cells #[.string ⟨pp.1.toArray⟩, .string ⟨pp.2.toArray⟩] 61 (0, 0)) := by
                    rw [hgrow7.block P (by simp; omega) (fun e => by have := H6.out.2.2.2 P e.symm; omega)]
                    exact (((Below.refl _ W6).alloc (Nat.le_refl _) _).block P hPl).trans H6.out.2.2.1
                  have hbw : Below w1.heap.size w1 w7 := (H6.out.2.1.alloc hsz6 _).grown hgrow7 (by simp; omega) (fun j hj => (World.ownsRow.lt H6.out.1 j hj).1)
                  rcases hown7.2 with ⟨_, hz⟩ | ⟨g7, c7, cur, hv, hg, hh, hnc, hcm, hcs', htk⟩
                  · omega
                  · refine ⟨g7, c7, hv, ?_, hbw, by have := cell_blk hbl 0; simpa using this, by have := cell_blk hbl 1; simpa using this, hg, fun h0 e => ?_⟩
                    · rw [← hv, hole_end, hcs_snoc]; exact hown7
                    · rw [← e, hbl] at hh
                      simp only [Option.some.injEq, Obj.cells.injEq] at hh
                      have := congrArg Array.size hh.1
                      simp at this
                      omega
                obtain rfl := H7.out.1
                clear hown7 hgrow7 p0 p1 H6
                go_wp2
                go_loopw [15] (fun kk W' => ∃ (q : Nat) (y : Hd), q ≤ A.length ∧ kk = .int .i64 q ∧ W'.ownsRow w1.heap.size 61 2 (.slice (some ⟨g7, 0, none⟩) (A.length + 1) c7) (A.length + 1) (hcs (holeL A y q)) ∧ Below w1.heap.size w1 W' ∧ W'.cell? ⟨P, 0, none⟩ = some (.string ⟨pp.1.toArray⟩) ∧ W'.cell? ⟨P, 1, none⟩ = some (.string ⟨pp.2.toArray⟩) ∧ (∀ z ∈ A.drop q, ltH pp z)) (fun kk _ => (intOf kk).toNat)
                case atStart => exact ⟨A.length, pp, Nat.le_refl _, rfl, H7.out.2.1, H7.out.2.2.1, H7.out.2.2.2.1, H7.out.2.2.2.2.1, by simp⟩
                case round =>
                  obtain ⟨q, y, hq, rfl, hown2, hb2, p0, p1, hlow⟩ := hrel
                  have HS := (show Hid (wr.ownsRow w1.heap.size 61 2 (.slice (some ⟨g7, 0, none⟩) (A.length + 1) c7) (A.length + 1) (hcs (holeL A y q)) ∧ Below w1.heap.size w1 wr ∧ (∀ z ∈ A.drop q, ltH pp z)) from ⟨hown2, hb2, hlow⟩)
                  by_cases hq0 : q = 0
                  · subst hq0
                    obtain ⟨⟨y0, e0⟩, ⟨y1, e1⟩, f0, f1⟩ := own_slots hown2 (hole_len A y 0) (q := 0) (by omega)
                    rw [Nat.zero_mul] at e0 f0
                    rw [Nat.zero_mul, Nat.zero_add] at e1 f1
                    have hA1 : (0 : Int) < (A.length : Int) + 1 := by omega
                    clear hown2 hb2 hlow
                    go_upto_region 14 with fail
                    refine wp_region_held_drew (S := fun w' => w' = wr.drew) (by kernel_rfl) rfl (fun hHeld => ?_)
                    refine wpAnyH_take (i := 0) (oi := { dst := some 73, op := Op.move (Operand.tmp 15), type := 3, pos := "stowageref18.go:58", after := #[], guard := none }) (v := ?_) rfl (by kernel_rfl) (by kernel_rfl) (by kernel_rfl) (fun _ _ _ h => h) (Or.inl ⟨by rfl, ?_⟩) (by assumption) ?_
                    rotate_left
                    · intro w hSw
                      try dsimp only at hSw
                      go_simp
                      all_goals with_reducible rfl
                    try simp only [Act.put, List.setIfInBounds_toArray, List.set_cons_zero, List.set_cons_succ]
                    refine wpAnyH_take (i := 1) (oi := { dst := some 74, op := Op.binOp BinOp.gtr 3 (Operand.tmp 73) (Operand.const (Value.int IntKind.i64 0)) 3, type := 4, pos := "stowageref18.go:58", after := #[{ on := 0, ground := Ground.data }], guard := none }) (v := ?_) rfl (by kernel_rfl) (by kernel_rfl) (by kernel_rfl) (fun _ _ _ h => h) (Or.inl ⟨by rfl, ?_⟩) (by assumption) ?_
                    rotate_left
                    · intro w hSw
                      try dsimp only at hSw
                      go_simp
                      all_goals with_reducible rfl
                    try simp only [Act.put, List.setIfInBounds_toArray, List.set_cons_zero, List.set_cons_succ]
                    refine wpAnyH_take (i := 2) (oi := { dst := some 75, op := Op.move (Operand.tmp 74), type := 4, pos := "stowageref18.go:58", after := #[{ on := 1, ground := Ground.data }], guard := none }) (v := ?_) rfl (by kernel_rfl) (by kernel_rfl) (by kernel_rfl) (fun _ _ _ h => h) (Or.inl ⟨by rfl, ?_⟩) (by assumption) ?_
                    rotate_left
                    · intro w hSw
                      try dsimp only at hSw
                      go_simp
                      all_goals with_reducible rfl
                    try simp only [Act.put, List.setIfInBounds_toArray, List.set_cons_zero, List.set_cons_succ]
                    refine wpAnyH_take (i := 3) (oi := { dst := some 76, op := Op.load 61 (Operand.tmp 14), type := 61, pos := "stowageref18.go:58", after := #[{ on := 2, ground := Ground.guard }], guard := some (2, true) }) (v := undef) rfl (by kernel_rfl) (by kernel_rfl) (by kernel_rfl) (fun _ _ _ h => h) (Or.inr ⟨by rfl, rfl⟩) (by assumption) ?_
                    try simp only [Act.put, List.setIfInBounds_toArray, List.set_cons_zero, List.set_cons_succ]
                    refine wpAnyH_take (i := 4) (oi := { dst := some 77, op := Op.move (Operand.tmp 8), type := 22, pos := "stowageref18.go:58", after := #[{ on := 2, ground := Ground.guard }], guard := some (2, true) }) (v := undef) rfl (by kernel_rfl) (by kernel_rfl) (by kernel_rfl) (fun _ _ _ h => h) (Or.inr ⟨by rfl, rfl⟩) (by assumption) ?_
                    try simp only [Act.put, List.setIfInBounds_toArray, List.set_cons_zero, List.set_cons_succ]
                    refine wpAnyH_take (i := 5) (oi := { dst := some 78, op := Op.move (Operand.tmp 15), type := 3, pos := "stowageref18.go:58", after := #[{ on := 2, ground := Ground.guard }], guard := some (2, true) }) (v := undef) rfl (by kernel_rfl) (by kernel_rfl) (by kernel_rfl) (fun _ _ _ h => h) (Or.inr ⟨by rfl, rfl⟩) (by assumption) ?_
                    try simp only [Act.put, List.setIfInBounds_toArray, List.set_cons_zero, List.set_cons_succ]
                    refine wpAnyH_take (i := 6) (oi := { dst := some 79, op := Op.binOp BinOp.sub 3 (Operand.tmp 78) (Operand.const (Value.int IntKind.i64 1)) 3, type := 3, pos := "stowageref18.go:58", after := #[{ on := 5, ground := Ground.data }, { on := 2, ground := Ground.guard }], guard := some (2, true) }) (v := undef) rfl (by kernel_rfl) (by kernel_rfl) (by kernel_rfl) (fun _ _ _ h => h) (Or.inr ⟨by rfl, rfl⟩) (by assumption) ?_
                    try simp only [Act.put, List.setIfInBounds_toArray, List.set_cons_zero, List.set_cons_succ]
                    refine wpAnyH_take (i := 7) (oi := { dst := some 80, op := Op.indexAddr 22 (Operand.tmp 77) (Operand.tmp 79), type := 0, pos := "stowageref18.go:58", after := #[{ on := 4, ground := Ground.data }, { on := 6, ground := Ground.data }, { on := 2, ground := Ground.guard }], guard := some (2, true) }) (v := undef) rfl (by kernel_rfl) (by kernel_rfl) (by kernel_rfl) (fun _ _ _ h => h) (Or.inr ⟨by rfl, rfl⟩) (by assumption) ?_
                    try simp only [Act.put, List.setIfInBounds_toArray, List.set_cons_zero, List.set_cons_succ]
                    refine wpAnyH_take (i := 8) (oi := { dst := some 81, op := Op.load 61 (Operand.tmp 80), type := 61, pos := "stowageref18.go:58", after := #[{ on := 7, ground := Ground.data }, { on := 2, ground := Ground.guard }], guard := some (2, true) }) (v := undef) rfl (by kernel_rfl) (by kernel_rfl) (by kernel_rfl) (fun _ _ _ h => h) (Or.inr ⟨by rfl, rfl⟩) (by assumption) ?_
                    try simp only [Act.put, List.setIfInBounds_toArray, List.set_cons_zero, List.set_cons_succ]
                    refine wpAnyH_take (i := 9) (oi := { dst := some 82, op := Op.call { callee := Callee.value (Operand.func 102), args := #[Operand.tmp 76, Operand.tmp 81], argTypes := #[61, 61] }, type := 4, pos := "stowageref18.go:58", after := #[{ on := 3, ground := Ground.data }, { on := 8, ground := Ground.data }, { on := 2, ground := Ground.chain }, { on := 2, ground := Ground.guard }], guard := some (2, true) }) (v := undef) rfl (by kernel_rfl) (by kernel_rfl) (by kernel_rfl) (fun _ _ _ h => h) (Or.inr ⟨by rfl, rfl⟩) (by assumption) ?_
                    try simp only [Act.put, List.setIfInBounds_toArray, List.set_cons_zero, List.set_cons_succ]
                    refine wpAnyH_take (i := 10) (oi := { dst := some 83, op := Op.pick (Operand.tmp 75) (Operand.tmp 82) (Operand.const (Value.bool false)), type := 4, pos := "stowageref18.go:58", after := #[{ on := 2, ground := Ground.data }, { on := 9, ground := Ground.data }], guard := none }) (v := ?_) rfl (by kernel_rfl) (by kernel_rfl) (by kernel_rfl) (fun _ _ _ h => h) (Or.inl ⟨by rfl, ?_⟩) (by assumption) ?_
                    rotate_left
                    · intro w hSw
                      try dsimp only at hSw
                      go_simp
                      all_goals with_reducible rfl
                    try simp only [Act.put, List.setIfInBounds_toArray, List.set_cons_zero, List.set_cons_succ]
                    refine wpAnyH_done (by kernel_rfl) ?_ _
                    go_upto_region 17 with fail
                    go_wp2
                    go_roundw
                    case rel =>
                      refine ⟨k + 1, holeL A pp 0, by omega, by go_num, ?_, (HS.out.2.1.drew.setCell H7.out.2.2.2.2.2.1 _).setCell H7.out.2.2.2.2.2.1 _, ins_srt HR.out.2.2.1 (Nat.zero_le _) HS.out.2.2 (fun h => absurd h (Nat.lt_irrefl 0)), ?_, HFF.out.2⟩
                      · rw [hole_len, ← hole_set (y := y) (Nat.zero_le _)]
                        exact own_set (w := wr.drew) (i := 0) HS.out.1.drew pp
                      · rw [HFF.out.1]
                        exact (ins_perm A pp 0).trans (HR.out.2.2.2.1.append_right _)
                    case measure => simp [intOf]; omega
                  · obtain ⟨q, rfl⟩ : ∃ q', q = q' + 1 := ⟨q - 1, by omega⟩
                    have hqA : q < A.length := by omega
                    obtain ⟨z, hz⟩ : ∃ z, z = A[q] := ⟨_, rfl⟩
                    have HZ := (show Hid (z = A[q]) from hz)
                    have hpv : (holeL A y (q + 1))[q]? = some z := by rw [hz]; exact hole_prev (k := q + 1) (by omega) (by omega)
                    have hql : q < (holeL A y (q + 1)).length := by rw [hole_len]; omega
                    have z0 : wr.cell? ⟨g7, q * 2, none⟩ = some (.string ⟨z.1.toArray⟩) := by
                      have h1 := hown2.cellAt (q * 2) (by omega)
                      have h2 := hcs_at (holeL A y (q + 1)) (q * 2) (by omega)
                      rw [show q * 2 / 2 = q by omega, show q * 2 % 2 = 0 by omega, getElem!_pos _ q hql] at h2
                      rw [List.getElem?_eq_getElem hql, Option.some.injEq] at hpv
                      rw [hpv] at h2
                      exact h1.trans h2
                    have z1 : wr.cell? ⟨g7, q * 2 + 1, none⟩ = some (.string ⟨z.2.toArray⟩) := by
                      have h1 := hown2.cellAt (q * 2 + 1) (by omega)
                      have h2 := hcs_at (holeL A y (q + 1)) (q * 2 + 1) (by omega)
                      rw [show (q * 2 + 1) / 2 = q by omega, show (q * 2 + 1) % 2 = 1 by omega, getElem!_pos _ q hql] at h2
                      rw [List.getElem?_eq_getElem hql, Option.some.injEq] at hpv
                      rw [hpv] at h2
                      exact h1.trans h2
                    have hgl := blk_lt_own hown2
                    have hPl := block_lt_of_cell p0
                    have HBX := (show Hid (∀ w', Below wr.heap.size wr w' → w'.cell? ⟨P, 0, none⟩ = some (.string ⟨pp.1.toArray⟩) ∧ w'.cell? ⟨P, 1, none⟩ = some (.string ⟨pp.2.toArray⟩) ∧ w'.cell? ⟨g7, q * 2, none⟩ = some (.string ⟨z.1.toArray⟩) ∧ w'.cell? ⟨g7, q * 2 + 1, none⟩ = some (.string ⟨z.2.toArray⟩)) from fun w' hb' => ⟨(hb'.cell (p := ⟨P, 0, none⟩) hPl).trans p0, (hb'.cell (p := ⟨P, 1, none⟩) hPl).trans p1, (hb'.cell (p := ⟨g7, q * 2, none⟩) hgl).trans z0, (hb'.cell (p := ⟨g7, q * 2 + 1, none⟩) hgl).trans z1⟩)
                    obtain ⟨r, hr⟩ : ∃ r, r = decide (ltH pp z) := ⟨_, rfl⟩
                    have HRR := (show Hid (r = decide (ltH pp z)) from hr)
                    have KB := (show Hid (∀ W', Calls Tryz.prog 102 #[.agg #[.string ⟨pp.1.toArray⟩, .string ⟨pp.2.toArray⟩], .agg #[.string ⟨z.1.toArray⟩, .string ⟨z.2.toArray⟩]] W' fun e w' => e = .returned (.bool r) ∧ Below W'.heap.size W' w') from fun W' => by rw [hr]; exact below_any pp z W')
                    have hqi : (0 : Int) < ((q : Int) + 1) := by omega
                    have hql2 : (q : Int) < ((A.length : Int) + 1) := by omega
                    have hq00 : (0 : Int) ≤ (q : Int) := by omega
                    have hwq : IntKind.i64.wrap (q : Int) = (q : Int) := by rw [IntKind.wrap_i64]; omega
                    have HSL := (show Hid (∀ w', Below wr.heap.size wr w' → (w'.ownsRow w1.heap.size 61 2 (.slice (some ⟨g7, 0, none⟩) (A.length + 1) c7) (A.length + 1) (hcs (holeL A y (q + 1))) ∧ Below w1.heap.size w1 w')) from fun w' hb' => ⟨own_of_below2 HS.out.1 hb', HS.out.2.1.trans (hb'.mono HS.out.2.1.size)⟩)
                    have hq1l : (q : Int) + 1 < ((A.length : Int) + 1) := by omega
                    have hq10 : (0 : Int) ≤ (q : Int) + 1 := by omega
                    clear hown2 hb2 hlow hz hpv hql hgl hPl hr
                    go_upto_region 14 with fail
                    refine wp_region_held_drew (S := fun w' => Below wr.heap.size wr w' ∧ w'.cell? ⟨P, 0, none⟩ = some (.string ⟨pp.1.toArray⟩) ∧ w'.cell? ⟨P, 1, none⟩ = some (.string ⟨pp.2.toArray⟩) ∧ w'.cell? ⟨g7, q * 2, none⟩ = some (.string ⟨z.1.toArray⟩) ∧ w'.cell? ⟨g7, q * 2 + 1, none⟩ = some (.string ⟨z.2.toArray⟩)) (by kernel_rfl) (⟨(Below.refl _ wr).drew, p0, p1, z0, z1⟩) (fun hHeld => ?_)
                    refine wpAnyH_take (i := 0) (oi := { dst := some 73, op := Op.move (Operand.tmp 15), type := 3, pos := "stowageref18.go:58", after := #[], guard := none }) (v := ?_) rfl (by kernel_rfl) (by kernel_rfl) (by kernel_rfl) (fun _ _ _ h => h) (Or.inl ⟨by rfl, ?_⟩) (by assumption) ?_
                    rotate_left
                    · intro w hSw
                      try dsimp only at hSw
                      go_simp
                      all_goals with_reducible rfl
                    try simp only [Act.put, List.setIfInBounds_toArray, List.set_cons_zero, List.set_cons_succ]
                    refine wpAnyH_take (i := 1) (oi := { dst := some 74, op := Op.binOp BinOp.gtr 3 (Operand.tmp 73) (Operand.const (Value.int IntKind.i64 0)) 3, type := 4, pos := "stowageref18.go:58", after := #[{ on := 0, ground := Ground.data }], guard := none }) (v := ?_) rfl (by kernel_rfl) (by kernel_rfl) (by kernel_rfl) (fun _ _ _ h => h) (Or.inl ⟨by rfl, ?_⟩) (by assumption) ?_
                    rotate_left
                    · intro w hSw
                      try dsimp only at hSw
                      go_simp
                      all_goals with_reducible rfl
                    try simp only [Act.put, List.setIfInBounds_toArray, List.set_cons_zero, List.set_cons_succ]
                    refine wpAnyH_take (i := 2) (oi := { dst := some 75, op := Op.move (Operand.tmp 74), type := 4, pos := "stowageref18.go:58", after := #[{ on := 1, ground := Ground.data }], guard := none }) (v := ?_) rfl (by kernel_rfl) (by kernel_rfl) (by kernel_rfl) (fun _ _ _ h => h) (Or.inl ⟨by rfl, ?_⟩) (by assumption) ?_
                    rotate_left
                    · intro w hSw
                      try dsimp only at hSw
                      go_simp
                      all_goals with_reducible rfl
                    try simp only [Act.put, List.setIfInBounds_toArray, List.set_cons_zero, List.set_cons_succ]
                    refine wpAnyH_take (i := 3) (oi := { dst := some 76, op := Op.load 61 (Operand.tmp 14), type := 61, pos := "stowageref18.go:58", after := #[{ on := 2, ground := Ground.guard }], guard := some (2, true) }) (v := ?_) rfl (by kernel_rfl) (by kernel_rfl) (by kernel_rfl) (fun _ _ _ h => h) (Or.inl ⟨by rfl, ?_⟩) (by assumption) ?_
                    rotate_left
                    · intro w hSw
                      try dsimp only at hSw
                      go_simp
                      all_goals with_reducible rfl
                    try simp only [Act.put, List.setIfInBounds_toArray, List.set_cons_zero, List.set_cons_succ]
                    refine wpAnyH_take (i := 4) (oi := { dst := some 77, op := Op.move (Operand.tmp 8), type := 22, pos := "stowageref18.go:58", after := #[{ on := 2, ground := Ground.guard }], guard := some (2, true) }) (v := ?_) rfl (by kernel_rfl) (by kernel_rfl) (by kernel_rfl) (fun _ _ _ h => h) (Or.inl ⟨by rfl, ?_⟩) (by assumption) ?_
                    rotate_left
                    · intro w hSw
                      try dsimp only at hSw
                      go_simp
                      all_goals with_reducible rfl
                    try simp only [Act.put, List.setIfInBounds_toArray, List.set_cons_zero, List.set_cons_succ]
                    refine wpAnyH_take (i := 5) (oi := { dst := some 78, op := Op.move (Operand.tmp 15), type := 3, pos := "stowageref18.go:58", after := #[{ on := 2, ground := Ground.guard }], guard := some (2, true) }) (v := ?_) rfl (by kernel_rfl) (by kernel_rfl) (by kernel_rfl) (fun _ _ _ h => h) (Or.inl ⟨by rfl, ?_⟩) (by assumption) ?_
                    rotate_left
                    · intro w hSw
                      try dsimp only at hSw
                      go_simp
                      all_goals with_reducible rfl
                    try simp only [Act.put, List.setIfInBounds_toArray, List.set_cons_zero, List.set_cons_succ]
                    refine wpAnyH_take (i := 6) (oi := { dst := some 79, op := Op.binOp BinOp.sub 3 (Operand.tmp 78) (Operand.const (Value.int IntKind.i64 1)) 3, type := 3, pos := "stowageref18.go:58", after := #[{ on := 5, ground := Ground.data }, { on := 2, ground := Ground.guard }], guard := some (2, true) }) (v := ?_) rfl (by kernel_rfl) (by kernel_rfl) (by kernel_rfl) (fun _ _ _ h => h) (Or.inl ⟨by rfl, ?_⟩) (by assumption) ?_
                    rotate_left
                    · intro w hSw
                      try dsimp only at hSw
                      go_simp
                      all_goals with_reducible rfl
                    try simp only [Act.put, List.setIfInBounds_toArray, List.set_cons_zero, List.set_cons_succ]
                    refine wpAnyH_take (i := 7) (oi := { dst := some 80, op := Op.indexAddr 22 (Operand.tmp 77) (Operand.tmp 79), type := 0, pos := "stowageref18.go:58", after := #[{ on := 4, ground := Ground.data }, { on := 6, ground := Ground.data }, { on := 2, ground := Ground.guard }], guard := some (2, true) }) (v := ?_) rfl (by kernel_rfl) (by kernel_rfl) (by kernel_rfl) (fun _ _ _ h => h) (Or.inl ⟨by rfl, ?_⟩) (by assumption) ?_
                    rotate_left
                    · intro w hSw
                      try dsimp only at hSw
                      go_simp
                      all_goals with_reducible rfl
                    try simp only [Act.put, List.setIfInBounds_toArray, List.set_cons_zero, List.set_cons_succ]
                    refine wpAnyH_take (i := 8) (oi := { dst := some 81, op := Op.load 61 (Operand.tmp 80), type := 61, pos := "stowageref18.go:58", after := #[{ on := 7, ground := Ground.data }, { on := 2, ground := Ground.guard }], guard := some (2, true) }) (v := ?_) rfl (by kernel_rfl) (by kernel_rfl) (by kernel_rfl) (fun _ _ _ h => h) (Or.inl ⟨by rfl, ?_⟩) (by assumption) ?_
                    rotate_left
                    · intro w hSw
                      try dsimp only at hSw
                      go_simp
                      all_goals with_reducible rfl
                    try simp only [Act.put, List.setIfInBounds_toArray, List.set_cons_zero, List.set_cons_succ]
                    refine wpAnyH_ready (rs := [9]) (by kernel_rfl) (by simp) ?_
                    refine AllReadyH.cons (o := { dst := some 82, op := Op.call { callee := Callee.value (Operand.func 102), args := #[Operand.tmp 76, Operand.tmp 81], argTypes := #[61, 61] }, type := 4, pos := "stowageref18.go:58", after := #[{ on := 3, ground := Ground.data }, { on := 8, ground := Ground.data }, { on := 2, ground := Ground.chain }, { on := 2, ground := Ground.guard }], guard := some (2, true) }) rfl (fun K0 hK => ?_) AllReadyH.nil
                    go_simp
                    go_at_call 102
                    refine Calls.mono (KB.out _) ?_
                    rintro e w8 ⟨rfl, hb8⟩
                    have hb8 : Below wr.heap.size wr w8 := (Below.refl wr.heap.size wr).drew.trans hb8
                    obtain ⟨x0, x1, x2, x3⟩ := HBX.out w8 hb8
                    refine hK.out _ _ ⟨hb8, x0, x1, x2, x3⟩ (fun hHeld => ?_)
                    clear hK K0
                    try simp only [Act.put, List.setIfInBounds_toArray, List.set_cons_zero, List.set_cons_succ]
                    refine wpAnyH_take (i := 10) (oi := { dst := some 83, op := Op.pick (Operand.tmp 75) (Operand.tmp 82) (Operand.const (Value.bool false)), type := 4, pos := "stowageref18.go:58", after := #[{ on := 2, ground := Ground.data }, { on := 9, ground := Ground.data }], guard := none }) (v := ?_) rfl (by kernel_rfl) (by kernel_rfl) (by kernel_rfl) (fun _ _ _ h => h) (Or.inl ⟨by rfl, ?_⟩) (by assumption) ?_
                    rotate_left
                    · intro w hSw
                      try dsimp only at hSw
                      go_simp
                      all_goals with_reducible rfl
                    try simp only [Act.put, List.setIfInBounds_toArray, List.set_cons_zero, List.set_cons_succ]
                    refine wpAnyH_done (by kernel_rfl) ?_ _
                    obtain ⟨n1, n2⟩ := HSL.out w8 hb8
                    have HN := (show Hid (w8.ownsRow w1.heap.size 61 2 (.slice (some ⟨g7, 0, none⟩) (A.length + 1) c7) (A.length + 1) (hcs (holeL A y (q + 1))) ∧ Below w1.heap.size w1 w8) from ⟨n1, n2⟩)
                    obtain ⟨⟨y0, e0⟩, ⟨y1, e1⟩, f0, f1⟩ := own_slots n1 (hole_len A y (q + 1)) (q := q + 1) (by omega)
                    clear hHeld hb8 n1 n2 HSL HBX KB
                    cases r with
                    | false =>
                      have HNL := (show Hid (¬ ltH pp A[q]) from by show ¬ ltH pp A[q]; rw [← HZ.out]; exact of_decide_eq_false HRR.out.symm)
                      clear HRR x2 x3 p0 p1 z0 z1
                      go_upto_region 17 with fail
                      go_wp2
                      go_roundw
                      case rel =>
                        refine ⟨k + 1, holeL A pp (q + 1), by omega, by go_num, ?_, (HN.out.2.setCell H7.out.2.2.2.2.2.1 _).setCell H7.out.2.2.2.2.2.1 _, ins_srt HR.out.2.2.1 (by omega) HS.out.2.2 (fun _ => HNL.out), ?_, HFF.out.2⟩
                        · rw [hole_len, ← hole_set (y := y) (by omega)]
                          exact own_set HN.out.1 (q + 1) pp
                        · rw [HFF.out.1]
                          exact (ins_perm A pp (q + 1)).trans (HR.out.2.2.2.1.append_right _)
                      case measure => simp [intOf]; omega
                    | true =>
                      have HLT := (show Hid (ltH pp A[q]) from by show ltH pp A[q]; rw [← HZ.out]; exact of_decide_eq_true HRR.out.symm)
                      have hPg := H7.out.2.2.2.2.2.2 (by omega)
                      have HPP := (show Hid (w8.cell? ⟨P, 0, none⟩ = some (.string ⟨pp.1.toArray⟩) ∧ w8.cell? ⟨P, 1, none⟩ = some (.string ⟨pp.2.toArray⟩)) from ⟨x0, x1⟩)
                      clear HRR x0 x1 p0 p1 z0 z1
                      go_upto_region 15 with fail
                      go_wp2
                      go_roundw
                      case rel =>
                        refine ⟨q, z, by omega, by go_num, ?_, (HN.out.2.setCell H7.out.2.2.2.2.2.1 _).setCell H7.out.2.2.2.2.2.1 _, ?_, ?_, drop_down (k := q + 1) (by omega) (by omega) HS.out.2.2 HLT.out⟩
                        · have e : holeL A z q = (holeL A y (q + 1)).set (q + 1) z := by rw [HZ.out]; exact (hole_down (k := q + 1) (by omega) (by omega)).symm
                          rw [e]
                          exact own_set HN.out.1 (q + 1) z
                        · exact (cell_two_set hPg _ _ _ _ _).trans HPP.out.1
                        · exact (cell_two_set hPg _ _ _ _ _).trans HPP.out.2
                      case measure => simp [intOf]
    · obtain rfl : k = D.length := by omega
      rw [List.take_length] at HR
      have hA : A = srtL ((D.filter (keepP pre)).map escP) := srtL_of HR.out.2.2.2.1 HR.out.2.2.1
      have HF := (show Hid (cb = true ∧ cv = Lib.join (A.map partP) [38]) from ⟨HV.out.2.trans HR.out.2.2.2.2, HV.out.1.trans (by rw [cqV, if_pos HR.out.2.2.2.2, cqL, ← hA])⟩)
      have hTA : tot A ≤ 25165830 := by
        have h1 := tot_esc (D.filter (keepP pre))
        have h2 := tot_filter (keepP pre) D
        have h3 := H1.out.2.2
        rw [tot_perm HR.out.2.2.2.1]
        omega
      have HTA := (show Hid (tot A ≤ 25165830) from hTA)
      obtain ⟨a8', c8', he8, hH8⟩ := own_hdrs HR.out.1
      simp only [Value.slice.injEq, true_and] at he8
      obtain ⟨rfl, rfl⟩ := he8
      have H8 := (show Hid (Hdrs wr a8 A) from hH8)
      clear hown hb hsrt hprm hall hA hTA hH8
      go_wp2
      go_loopw [16, 17] (fun s i W' => ∃ (q : Nat) (S : ByteArray), q ≤ A.length ∧ i = .int .i64 q ∧ s = .string S ∧ S.data.toList = Lib.join ((A.take q).map partP) [38] ∧ Below wr.heap.size wr W') (fun _ i _ => A.length - (intOf i).toNat)
      case atStart => exact ⟨0, ⟨#[]⟩, Nat.zero_le _, rfl, rfl, rfl, Below.refl _ _⟩
      case round =>
        obtain ⟨q, S, hq, rfl, rfl, hS, hb9⟩ := hrel
        have HB9 := (show Hid (Below w.heap.size w wr) from H1.out.2.1.trans ((HR.out.2.1.trans (hb9.mono HR.out.2.1.size)).mono hsz1))
        have hSz : S.size = S.data.toList.length := by simp
        have hjl := join_le ((A.take q).map partP) 38
        have hlp := lens_parts (A.take q)
        have htk := tot_take A q
        have hta := HTA.out
        rw [List.length_map] at hjl
        rw [← hS] at hjl
        by_cases hlt9 : q < A.length
        · rcases H8.out.below hb9 (Nat.le_refl _) with hnil | ⟨b, off, rfl, hbs, hc⟩
          · rw [hnil] at hlt9; simp at hlt9
          · obtain ⟨c1', c2'⟩ := hc q hlt9
            have hxl := tot_mem (List.getElem_mem hlt9)
            have HJ := (show Hid (Lib.join ((A.take (q + 1)).map partP) [38] = if (A.take q).map partP = [] then partP A[q] else S.data.toList ++ [38] ++ partP A[q]) from by
              show _ = _
              rw [List.take_succ_eq_append_getElem hlt9, List.map_append, List.map_singleton, join_snoc, hS])
            have hS0 := hS
            generalize A[q] = x at *
            have hki : (q : Int) < (A.length : Int) := by omega
            have hkk : (0 : Int) ≤ (q : Int) := by omega
            have HB99 := (show Hid (Below _ _ wr) from hb9)
            by_cases hq0 : q = 0
            · subst hq0
              have q1 : ¬ 9223372036854775807 < S.size + x.1.length := by omega
              have q2 : ¬ 9223372036854775807 < S.size + x.1.length + 1 := by omega
              have q3 : ¬ 9223372036854775807 < S.size + x.1.length + 1 + x.2.length := by omega
              have HE := (show Hid ((S ++ ⟨x.1.toArray⟩ ++ ⟨#[61]⟩ ++ ⟨x.2.toArray⟩).data.toList = Lib.join ((A.take (0 + 1)).map partP) [38]) from by
                show _ = _
                rw [HJ.out, if_pos (by simp)]
                rw [List.take_zero, List.map_nil, Lib.join_nil] at hS0
                simp [hS0, partP])
              clear hS hS0 hjl hlp htk hb9 hc hSz
              rw [Nat.zero_mul, Nat.add_zero] at c1' c2'
              go_upto_region 24 with fail
              go_region_held3 (fun w' => w'.cell? ⟨b, off, none⟩ = some (.string ⟨x.1.toArray⟩) ∧ w'.cell? ⟨b, off + 1, none⟩ = some (.string ⟨x.2.toArray⟩)) (go_keep) (fail)
              go_wp2
              go_roundw
              case rel => exact ⟨0 + 1, _, by omega, by go_num, rfl, HE.out, HB99.out.drew⟩
              case measure => simp [intOf]; omega
            · have hq1 : (0 : Int) < (q : Int) := by omega
              have q0 : ¬ 9223372036854775807 < S.size + 1 := by omega
              have q1 : ¬ 9223372036854775807 < S.size + 1 + x.1.length := by omega
              have q2 : ¬ 9223372036854775807 < S.size + 1 + x.1.length + 1 := by omega
              have q3 : ¬ 9223372036854775807 < S.size + 1 + x.1.length + 1 + x.2.length := by omega
              have HE := (show Hid ((S ++ ⟨#[38]⟩ ++ ⟨x.1.toArray⟩ ++ ⟨#[61]⟩ ++ ⟨x.2.toArray⟩).data.toList = Lib.join ((A.take (q + 1)).map partP) [38]) from by
                show _ = _
                rw [HJ.out, if_neg (by intro h; have := congrArg List.length h; rw [List.length_map, List.length_take, List.length_nil] at this; omega)]
                simp [partP])
              clear hS hS0 hjl hlp htk hb9 hc hSz
              go_upto_region 24 with fail
              go_region_held3 (fun w' => w'.cell? ⟨b, off + q * 2, none⟩ = some (.string ⟨x.1.toArray⟩) ∧ w'.cell? ⟨b, off + q * 2 + 1, none⟩ = some (.string ⟨x.2.toArray⟩)) (go_keep) (fail)
              go_wp2
              go_roundw
              case rel => exact ⟨q + 1, _, by omega, by go_num, rfl, HE.out, HB99.out.drew⟩
              case measure => simp [intOf]; omega
        · obtain rfl : q = A.length := by omega
          rw [List.take_length] at hS
          have HFF := (show Hid (cv = S.data.toList ∧ cb = true) from ⟨by rw [HF.out.2, hS], HF.out.1⟩)
          clear hS hjl hlp htk hb9 hSz
          go_wp2
          go_ret2
          have es : (⟨S.data.toList.toArray⟩ : ByteArray) = S := by cases S; simp
          rw [HFF.out.1, HFF.out.2, es]
          exact ⟨rfl, HB9.out⟩
end Go.Proofs.YtnmffehmjgknkaaGreatDoor

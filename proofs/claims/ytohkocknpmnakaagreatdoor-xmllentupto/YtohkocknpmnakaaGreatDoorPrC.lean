/-
  printElement: of an element without kids.
-/
import Derived.Test.YtohkocknpmnakaaGreatDoorPrB
namespace Go.Proofs.YtohkocknpmnakaaGreatDoor
open Go.RowKit

/-- A builder, a node's box and a row of texts beside it. -/
structure Pe (W : World) (B b0 g : Nat) (n t : List UInt8) (xs : List (List UInt8)) (bl : List UInt8) (w : World) : Prop where
  bu : Lib.IsBuilderF 66 5 B B (Lib.byteCells bl) w
  bx : Bx w b0 n t (.slice none 0 0)
  row : w.heap[g]? = some (.cells (xs.map fun x => Value.string ⟨x.toArray⟩).toArray 9 (0, 0))
  bw : Below B W w
  le : B ≤ w.heap.size
  ne : b0 ≠ B ∧ g ≠ B
theorem Pe.write {W : World} {B b0 g : Nat} {n t : List UInt8} {xs : List (List UInt8)} {bl : List UInt8} {w : World} (h : Pe W B b0 g n t xs bl w) (x : ByteArray) (hl : bl.length + x.size ≤ 140737488355328) :
    Calls Tryz.prog 35 #[.pointer (some ⟨B, 0, none⟩), .string x] w fun e w' => e = .returned (.tuple #[.int .i64 x.size, .nilIface]) ∧ Pe W B b0 g n t xs (bl ++ x.data.toList) w' := by
  refine (ws_any B w bl x h.bu hl h.le).mono ?_
  rintro e w' ⟨rfl, h1, h2, h3⟩
  refine ⟨rfl, h1, ?_, ?_, h.bw.trans h2, Nat.le_trans h.le h2.size, h.ne⟩
  · exact h3 _ _ h.bx (by simpa using h.ne.1) (by intro c fz e; injection e with _ e _; cases e)
  · exact h3 _ _ h.row (by simpa using h.ne.2) (by intro c fz e; injection e with _ e _; cases e)
theorem Pe.cell {W : World} {B b0 g : Nat} {n t : List UInt8} {xs : List (List UInt8)} {bl : List UInt8} {w : World} (h : Pe W B b0 g n t xs bl w) (k : Nat) (hk : k < xs.length) : w.cell? ⟨g, k, none⟩ = some (.string ⟨(xs[k]).toArray⟩) := by
  rw [cell_blk h.row k]
  simp [hk]
theorem Pe.next {W : World} {B b0 g : Nat} {n t : List UInt8} {xs : List (List UInt8)} {bl : List UInt8} {w : World} (h : Pe W B b0 g n t xs bl w) (hB : B < w.heap.size) (ys : List (List UInt8)) : Pe W B b0 w.heap.size n t ys bl (w.alloc (.cells (ys.map fun x => Value.string ⟨x.toArray⟩).toArray 9)) := by
  have bA : Below w.heap.size w (w.alloc (.cells (ys.map fun x => Value.string ⟨x.toArray⟩).toArray 9)) := (Below.refl _ _).alloc (Nat.le_refl _) _
  exact ⟨isB_below h.bu bA, h.bx.keep (Md.ofBelow (F := fun _ => False) bA) (fun h => h), heap_alloc_new w _, h.bw.trans (bA.mono h.le), Nat.le_trans h.le bA.size, h.ne.1, by omega⟩
theorem Pe.lt {W : World} {B b0 g : Nat} {n t : List UInt8} {xs : List (List UInt8)} {bl : List UInt8} {w : World} (h : Pe W B b0 g n t xs bl w) (hB : B < W.heap.size) : B < w.heap.size := Nat.lt_of_lt_of_le hB h.bw.size
theorem flat_succ (xs : List (List UInt8)) (k : Nat) (hk : k < xs.length) : (xs.take (k + 1)).flatten = (xs.take k).flatten ++ xs[k] := by
  rw [List.take_succ_eq_append_getElem hk, List.flatten_append]
  simp only [List.flatten_cons, List.flatten_nil, List.append_nil]
theorem flat_len (xs : List (List UInt8)) (k N : Nat) (h : ∀ x ∈ xs, x.length ≤ N) : (xs.take k).flatten.length ≤ xs.length * N := by
  induction xs generalizing k with
  | nil => simp
  | cons a r ih =>
    cases k with
    | zero => simp
    | succ k =>
      have h1 := ih k (fun x hx => h x (by simp [hx]))
      have h2 := h a (by simp)
      simp only [List.take_succ_cons, List.flatten_cons, List.length_append, List.length_cons, Nat.succ_mul]
      omega

set_option maxRecDepth 20000 in
set_option maxHeartbeats 3200000 in
theorem printEl_leaf (n t at' bl : List UInt8) (B : Nat) (W : World) (hb : Lib.IsBuilderF 66 5 B B (Lib.byteCells bl) W) (hB : B < W.heap.size) (hbl : bl.length ≤ 65536) (hn : n.length ≤ 65536) (ht : t.length ≤ 65536) (ha : at'.length ≤ 65536) :
    Calls Tryz.prog 36 #[.pointer (some ⟨B, 0, none⟩), .agg #[.string ⟨n.toArray⟩, .string ⟨t.toArray⟩, .slice none 0 0], .string ⟨at'.toArray⟩] W fun e w' =>
      e = .returned (.bool (decide ((bl ++ [[60], n, at', [62], escX t].flatten ++ [[60, 47], n, [62]].flatten).length ≤ 65536))) ∧ Lib.IsBuilderF 66 5 B B (Lib.byteCells (bl ++ [[60], n, at', [62], escX t].flatten ++ [[60, 47], n, [62]].flatten)) w' ∧ Below B W w' := by
  have hel := escX_len t
  obtain ⟨xs, hxs⟩ : ∃ xs : List (List UInt8), xs = [[60], n, at', [62], escX t] := ⟨_, rfl⟩
  obtain ⟨ys, hys⟩ : ∃ ys : List (List UInt8), ys = [[60, 47], n, [62]] := ⟨_, rfl⟩
  rw [← hxs, ← hys]
  have HY : Hid (∀ w : World, w.alloc (.cells #[.string ⟨#[60, 47]⟩, .string ⟨n.toArray⟩, .string ⟨#[62]⟩] 9) = w.alloc (.cells (ys.map fun x => Value.string ⟨x.toArray⟩).toArray 9)) := fun w => by rw [hys]; rfl
  have HXA : Hid (∀ w : World, w.alloc (.cells #[.string ⟨#[60]⟩, .string ⟨n.toArray⟩, .string ⟨at'.toArray⟩, .string ⟨#[62]⟩, .string ⟨(escX t).toArray⟩] 9) = w.alloc (.cells (xs.map fun x => Value.string ⟨x.toArray⟩).toArray 9)) := fun w => by rw [hxs]; rfl
  have hx5 : ∀ x ∈ xs, x.length ≤ 400000 := by
    rw [hxs]
    intro x hx
    simp only [List.mem_cons, List.not_mem_nil, or_false] at hx
    rcases hx with rfl | rfl | rfl | rfl | rfl <;> (try simp) <;> omega
  have hx3 : ∀ x ∈ ys, x.length ≤ 400000 := by
    rw [hys]
    intro x hx
    simp only [List.mem_cons, List.not_mem_nil, or_false] at hx
    rcases hx with rfl | rfl | rfl <;> (try simp) <;> omega
  have hl5 : xs.length = 5 := by rw [hxs]; rfl
  have hl3 : ys.length = 3 := by rw [hys]; rfl
  have H5 : Hid (∀ k, (xs.take k).flatten.length ≤ 2000000) := fun k => by have := flat_len xs k 400000 hx5; omega
  have H3 : Hid (∀ k, (ys.take k).flatten.length ≤ 1200000) := fun k => by have := flat_len ys k 400000 hx3; omega
  have HX : Hid ((∀ x ∈ xs, x.length ≤ 400000) ∧ ∀ x ∈ ys, x.length ≤ 400000) := ⟨hx5, hx3⟩
  clear hxs hys hx5 hx3
  obtain ⟨W0, hW0⟩ : ∃ W0, W0 = W.alloc (.cells #[.string ⟨n.toArray⟩, .string ⟨t.toArray⟩, .slice none 0 0] 24) := ⟨_, rfl⟩
  have hbx0 : Bx W0 W.heap.size n t (.slice none 0 0) := by rw [hW0]; exact heap_alloc_new W _
  have hbw0 : Below W.heap.size W W0 := by rw [hW0]; exact (Below.refl _ _).alloc (Nat.le_refl _) _
  have hM0 : Md (fun _ => False) W0 W0.drew := (Md.refl _ _).below ((Below.refl _ _).drew)
  have HCE := (show Hid (∀ w', Md (fun _ => False) W0 w' → w'.cell? ⟨W.heap.size, 0, none⟩ = some (.string ⟨n.toArray⟩) ∧ w'.cell? ⟨W.heap.size, 1, none⟩ = some (.string ⟨t.toArray⟩) ∧ Md (fun _ => False) W0 w') from fun w' h => by
    have := Bx.cells (hbx0.keep h (fun h => h))
    exact ⟨this.1.1, this.1.2.1, h⟩)
  have HP := (show Hid (∀ w' (g : Nat) xs, Md (fun _ => False) W0 w' → g = w'.heap.size → Pe W B W.heap.size g n t xs bl (w'.alloc (.cells (xs.map fun x => Value.string ⟨x.toArray⟩).toArray 9))) from fun w' g xs h hg => by
    have hsz := h.size
    have hsz0 := hbw0.size
    have m1 : Md (fun _ => False) w' (w'.alloc (.cells (xs.map fun x => Value.string ⟨x.toArray⟩).toArray 9)) := (Md.refl _ _).alloc _
    have bW0 : Below W0.heap.size W0 w' := Md.toBelow (Below.refl _ _) h (fun _ _ h => h) (Nat.le_refl _)
    have bA : Below w'.heap.size w' (w'.alloc (.cells (xs.map fun x => Value.string ⟨x.toArray⟩).toArray 9)) := (Below.refl _ _).alloc (Nat.le_refl _) _
    refine ⟨isB_below (isB_below (isB_below hb hbw0) bW0) bA, (hbx0.keep h (fun h => h)).keep m1 (fun h => h), ?_, ?_, ?_, ?_⟩
    · rw [hg]; exact heap_alloc_new w' _
    · exact (hbw0.mono (Nat.le_of_lt hB)).trans ((bW0.mono (by omega)).trans (bA.mono (by omega)))
    · have := bA.size; omega
    · omega)
  have KE := (show Hid (∀ w', Calls Tryz.prog 24 #[.string ⟨t.toArray⟩] w' fun e w2 => e = .returned (.string ⟨(escX t).toArray⟩) ∧ Below w'.heap.size w' w2) from fun w' => escape_any t w' (by omega))
  clear hbx0 hbw0
  go_enter Tryz.func36, Tryz.ntmps36
  go_wp2_with fail
  rw [← hW0]
  clear hW0
  go_region_held3 (fun w' => w'.cell? ⟨W.heap.size, 0, none⟩ = some (.string ⟨n.toArray⟩) ∧ w'.cell? ⟨W.heap.size, 1, none⟩ = some (.string ⟨t.toArray⟩) ∧ Md (fun _ => False) W0 w') (first | ((with_reducible refine HCE.out _ ?_); (with_reducible assumption)) | ((with_reducible refine HCE.out _ (Md.alloc ?_ _)); (with_reducible assumption)))
    (first | (go_at_call 24; (with_reducible refine Calls.mono (KE.out _) ?_); rintro e w1 ⟨rfl, hb1⟩; have hM1 := Md.below hM0 hb1))
  have HP1 : Hid (Pe W B W.heap.size w1.heap.size n t xs bl (w1.alloc (.cells #[.string ⟨#[60]⟩, .string ⟨n.toArray⟩, .string ⟨at'.toArray⟩, .string ⟨#[62]⟩, .string ⟨(escX t).toArray⟩] 9))) := by
    rw [HXA.out]
    exact HP.out w1 w1.heap.size xs hM1 rfl
  generalize w1.alloc (.cells #[.string ⟨#[60]⟩, .string ⟨n.toArray⟩, .string ⟨at'.toArray⟩, .string ⟨#[62]⟩, .string ⟨(escX t).toArray⟩] 9) = wa at *
  clear hM1 hb1 HP HCE hM0 KE
  obtain ⟨g, hg⟩ : ∃ g, g = w1.heap.size := ⟨_, rfl⟩
  rw [← hg] at HP1 ⊢
  obtain ⟨b0, hb0⟩ : ∃ b, b = W.heap.size := ⟨_, rfl⟩
  rw [← hb0] at HP1 ⊢
  have HB0 : Hid (B < W.heap.size) := hB
  clear hg hb0 hb hB hn ht ha hel
  go_wp2
  go_loopw [21] (fun i wx => ∃ k : Nat, k ≤ 5 ∧ i = .int .i64 k ∧ Pe W B b0 g n t xs (bl ++ (xs.take k).flatten) wx) (fun i _ => 5 - (intOf i).toNat)
  case atStart => exact ⟨0, by omega, rfl, by simpa using HP1.out⟩
  case round =>
    obtain ⟨k, hk, rfl, hpe⟩ := hrel
    by_cases hk5 : k < 5
    · have hc := hpe.cell k (by omega)
      have hX : (xs[k]'(by omega)).length ≤ 400000 := HX.out.1 _ (List.getElem_mem _)
      have HF := (show Hid ((xs.take (k + 1)).flatten = (xs.take k).flatten ++ xs[k]'(by omega)) from flat_succ xs k (by omega))
      generalize xs[k]'(by omega) = x at *
      have h5 := H5.out k
      have K35 := hpe.write ⟨x.toArray⟩ (by rw [mk_size, List.length_append]; omega)
      clear hpe
      go_wp2_with fail
      refine K35.mono ?_
      rintro e w2 ⟨rfl, hp2⟩
      have HP2 : Hid (Pe W B b0 g n t xs (bl ++ (xs.take (k + 1)).flatten) w2) := by
        show Pe _ _ _ _ _ _ _ _ _
        rw [HF.out, ← List.append_assoc]
        exact hp2
      clear hp2 K35
      go_wp2
      go_roundw
      case rel => exact ⟨k + 1, by omega, by go_num, HP2.out⟩
      case measure => simp [intOf]; omega
    · obtain rfl : k = 5 := by omega
      rw [List.take_of_length_le (by omega)] at hpe
      obtain ⟨⟨-, -, c2⟩, -⟩ := Bx.cells hpe.bx
      have HPE : Hid (Pe W B b0 g n t xs (bl ++ xs.flatten) wr) := hpe
      obtain ⟨wo, e⟩ : ∃ x, x = wr := ⟨_, rfl⟩
      subst e
      clear hpe
      go_wp2
      go_loopw [32] (fun i wx => i = .int .i64 0 ∧ wx = wo) (fun _ _ => 0)
      case atStart => exact ⟨rfl, rfl⟩
      case round =>
        obtain ⟨rfl, rfl⟩ := hrel
        obtain ⟨⟨c0, -, -⟩, -⟩ := Bx.cells HPE.out.bx
        have HPN : Hid (Pe W B b0 wr.heap.size n t ys (bl ++ xs.flatten) (wr.alloc (.cells (ys.map fun x => Value.string ⟨x.toArray⟩).toArray 9))) := HPE.out.next (HPE.out.lt HB0.out) ys
        go_wp2
        rw [HY.out]
        generalize wr.alloc (.cells (ys.map fun x => Value.string ⟨x.toArray⟩).toArray 9) = wb at *
        obtain ⟨g2, hg2⟩ : ∃ g, g = wr.heap.size := ⟨_, rfl⟩
        rw [← hg2] at HPN ⊢
        obtain ⟨A, hA⟩ : ∃ A, A = bl ++ xs.flatten := ⟨_, rfl⟩
        have hAl : A.length ≤ 2065536 := by
          have := H5.out 5
          rw [List.take_of_length_le (by omega)] at this
          rw [hA, List.length_append]
          omega
        rw [← hA] at HPN
        have HA : Hid (A = bl ++ xs.flatten) := hA
        clear hg2 hA HPE c0 c2
        go_loopw [45] (fun i wx => ∃ k : Nat, k ≤ 3 ∧ i = .int .i64 k ∧ Pe W B b0 g2 n t ys (A ++ (ys.take k).flatten) wx) (fun i _ => 3 - (intOf i).toNat)
        case atStart => exact ⟨0, by omega, rfl, by simpa using HPN.out⟩
        case round =>
          obtain ⟨k, hk, rfl, hpe⟩ := hrel
          by_cases hk3 : k < 3
          · have hc := hpe.cell k (by omega)
            have hX : (ys[k]'(by omega)).length ≤ 400000 := HX.out.2 _ (List.getElem_mem _)
            have HF := (show Hid ((ys.take (k + 1)).flatten = (ys.take k).flatten ++ ys[k]'(by omega)) from flat_succ ys k (by omega))
            generalize ys[k]'(by omega) = x at *
            have h3 := H3.out k
            have K35 := hpe.write ⟨x.toArray⟩ (by rw [mk_size, List.length_append]; omega)
            clear hpe
            go_wp2_with fail
            refine K35.mono ?_
            rintro e w2 ⟨rfl, hp2⟩
            have HP2 : Hid (Pe W B b0 g2 n t ys (A ++ (ys.take (k + 1)).flatten) w2) := by
              show Pe _ _ _ _ _ _ _ _ _
              rw [HF.out, ← List.append_assoc]
              exact hp2
            clear hp2 K35
            go_wp2
            go_roundw
            case rel => (repeat apply Exists.intro); exact ⟨⟨k + 1, by omega, by go_num, HP2.out⟩, rfl⟩
            case measure => simp [intOf]; omega
          · obtain rfl : k = 3 := by omega
            rw [List.take_of_length_le (by omega)] at hpe
            have KL := Builder_Len_f B B _ wr hpe.bu
            rw [Lib.byteCells_length] at KL
            have HPE : Hid (Pe W B b0 g2 n t ys (A ++ ys.flatten) wr) := hpe
            have h3 := H3.out 3
            rw [List.take_of_length_le (by omega)] at h3
            have hle : (A ++ ys.flatten).length ≤ 4000000 := by rw [List.length_append]; omega
            have HR : Hid (A ++ ys.flatten = bl ++ xs.flatten ++ ys.flatten) := by
              show _ = _
              rw [HA.out]
            generalize A ++ ys.flatten = R at *
            clear hpe
            go_wp2_with fail
            refine KL.mono ?_
            rintro e w2 ⟨rfl, rfl⟩
            go_wp2
            all_goals
              go_ret
              rw [← HR.out]
              exact ⟨ret_bool (by rw [Bool.eq_iff_iff]; simp; try omega), HPE.out.bu, HPE.out.bw⟩
end Go.Proofs.YtohkocknpmnakaaGreatDoor

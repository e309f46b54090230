/-
  TreeAlike: the law's walk.
-/
import Derived.Test.YtpophalhmjchkaaAlikeM
import Derived.Deep.CutRange
import Derived.Deep.DeepCutAuto
namespace Go.Proofs.Ytpophalhmjchkaa
open Go.RowKit Go.Shelf

attribute [local go_sem] Oper.semAt_some
/-- No way out by a panic. -/
def noPanic (Q : Exit → Act → World → Prop) : Exit → Act → World → Prop
  | .panic _, _, _ => False
  | .normal, a, w => Q .normal a w
  | .ret, a, w => Q .ret a w
  | .exit i, a, w => Q (.exit i) a w
  | .goto t, a, w => Q (.goto t) a w
  | .outgrown, a, w => Q .outgrown a w
theorem noPanic_up {Q : Exit → Act → World → Prop} : ∀ e a w, noPanic Q e a w → Q e a w
  | .panic _, _, _, h => h.elim
  | .normal, _, _, h => h
  | .ret, _, _, h => h
  | .exit _, _, _, h => h
  | .goto _, _, _, h => h
  | .outgrown, _, _, h => h
theorem turn_lt {n : Nat} (h0 : 0 < n) (h1 : n ≤ 100) (x : Int) : ∃ kk : Nat, kk < n ∧ (wrap64 (x.tmod (n : Int) + (n : Int))).tmod (n : Int) = (kk : Int) := by
  have hn : (0 : Int) < (n : Int) := by omega
  have h2 := Int.tmod_lt_of_pos x hn
  have h3 := Int.lt_tmod_of_pos x hn
  have hw : wrap64 (x.tmod (n : Int) + (n : Int)) = x.tmod (n : Int) + (n : Int) := by unfold wrap64; omega
  rw [hw]
  have h4 : 0 ≤ x.tmod (n : Int) + (n : Int) := by omega
  rw [Int.tmod_eq_emod_of_nonneg h4]
  have h5 := Int.emod_nonneg (x.tmod (n : Int) + (n : Int)) (by omega : (n : Int) ≠ 0)
  have h6 := Int.emod_lt_of_pos (x.tmod (n : Int) + (n : Int)) hn
  exact ⟨((x.tmod (n : Int) + (n : Int)) % (n : Int)).toNat, by omega, by omega⟩
set_option maxRecDepth 100000 in
set_option maxHeartbeats 16000000 in
theorem alike_walk (a : Option Addr) (c : Nat) (ops : List OpT) (ka : Option Addr) (kc : Nat) (by_ : List Int) (w : World) (ho : Ops w a ops) (hk : Ins w ka by_) :
    Calls Try.prog 5 #[.slice a ops.length c, .slice ka by_.length kc] w fun e w' => e = .returned (.bool true) ∧ Below w.heap.size w w' := by
  obtain ⟨n, hn0⟩ : ∃ n, n = ops.length := ⟨_, rfl⟩
  obtain ⟨kn, hkn0⟩ : ∃ kn, kn = by_.length := ⟨_, rfl⟩
  rw [← hn0, ← hkn0]
  have HN : Hid (n = ops.length ∧ kn = by_.length) := ⟨hn0, hkn0⟩
  have HO : Hid (Ops w a ops ∧ Ins w ka by_) := ⟨ho, hk⟩
  clear hn0 hkn0 ho hk
  refine (callsIn_wide (n := 0)).1 ?_
  refine callsIn_of_wp_marks Try.func5 rfl trivial ?_ rfl
  simp only [Try.ntmps5, List.size_toArray, List.length_cons, List.length_nil, Nat.reduceAdd, Nat.reduceSub, Array.replicate_succ, Array.replicate_zero, List.push_toArray, List.append_toArray, List.nil_append, List.cons_append]
  refine wpIn_wide.2 (wp_mono ?_ noPanic_up)
  by_cases h100 : 100 < n
  · have hgt : (100 : Int) < (n : Int) := by omega
    go_upto_region 2 with (go_at_call 8; refine Calls.mono (new_any _) ?_; rintro e w1 ⟨b1, rfl, ht1, hb1⟩)
    go_upto_region 3 with (go_at_call 8; refine Calls.mono (new_any _) ?_; rintro e w2 ⟨b2, rfl, ht2, hb2⟩)
    go_wp2_with (go_at_call 9; refine Calls.mono (awake_any _) ?_; rintro e w3 ⟨rfl, hb3⟩)
    have hbb := hb1.trans (hb2.mono hb1.size)
    exact ⟨_, results_tmp rfl _ _ _, rfl, hbb.trans (hb3.mono hbb.size)⟩
  · have hgt : ¬ (100 : Int) < (n : Int) := by omega
    go_upto_region 2 with (go_at_call 8; refine Calls.mono (new_any _) ?_; rintro e w1 ⟨b1, rfl, ht1, hb1⟩)
    go_upto_region 5 with (go_at_call 8; refine Calls.mono (new_any _) ?_; rintro e w2 ⟨b2, rfl, ht2, hb2⟩)
    have hn1 : n ≤ 100 := by omega
    have HT : Hid (Tr w2 b1 0 (.leaf []) ∧ Tr w2 b2 0 (.leaf []) ∧ Below w.heap.size w w2) := ⟨ht1.below hb2, ht2, hb1.trans (hb2.mono hb1.size)⟩
    clear ht1 hb1 ht2 hb2 h100
    go_cut [7] from 37 to 39 (fun mv wc => ∃ g cap, mv = .slice (some ⟨g, 0, none⟩) n cap ∧ MR wc g n ops ∧ Tr wc b1 0 (.leaf []) ∧ Tr wc b2 0 (.leaf []) ∧ Below w.heap.size w wc ∧ w.heap.size ≤ g)
    case first =>
      have hA : Below w2.heap.size w2 (w2.alloc (.cells #[] 31)) := (Below.refl _ _).alloc (Nat.le_refl _) _
      cases a with
      | none =>
        have hops : ops = [] := by
          rcases HO.out.1 with h | ⟨b, off, h, _⟩
          · exact h
          · cases h
        obtain rfl : n = 0 := by have := HN.out.1; rw [hops] at this; exact this
        have hown : (w2.alloc (.cells #[] 31)).ownsRow w2.heap.size 31 3 (.slice (some ⟨w2.heap.size, 0, none⟩) 0 0) 0 [] := ⟨rfl, .inr ⟨w2.heap.size, 0, #[], rfl, Nat.le_refl _, heap_alloc_new w2 _, Nat.le_refl _, by unfold maxLen; omega, rfl, rfl⟩⟩
        obtain ⟨i0, hi, hz0, hz1, hz2⟩ := info_parts info31
        have HR : Hid (MR (w2.alloc (.cells #[] 31)) w2.heap.size 0 ops) := ⟨⟨_, heap_alloc_new w2 _⟩, by rw [hops]; rfl, by rw [hops]; intro j hj; simp at hj⟩
        clear hops
        go_wp2_with (at_builtin; refine wpList_append_own_none rfl (.tmp 37) (.tmp 38) 22 rfl w2.heap.size 31 i0 3 Try.underlying22 hi _ 0 [] rfl hown rfl ?_)
        go_meet
        case rel => exact ⟨w2.heap.size, 0, rfl, HR.out, HT.out.1.below hA, HT.out.2.1.below hA, HT.out.2.2.trans (hA.mono HT.out.2.2.size), HT.out.2.2.size⟩
      | some ad =>
        have ho2 : Ops w2 (some ad) ops := by
          have hb := HT.out.2.2
          rcases HO.out.1 with h | ⟨b, off, e, hbb, hc⟩
          · exact .inl h
          · exact .inr ⟨b, off, e, Nat.lt_of_lt_of_le hbb hb.size, fun j hj => ⟨(hb.cell (p := ⟨b, off + j * 3, none⟩) hbb).trans (hc j hj).1, (hb.cell (p := ⟨b, off + j * 3 + 1, none⟩) hbb).trans (hc j hj).2.1, (hb.cell (p := ⟨b, off + j * 3 + 2, none⟩) hbb).trans (hc j hj).2.2⟩⟩
        obtain ⟨g, cap, w3, hr, hmr, hgr, hge⟩ := copy_ops (c := c) ho2 (by have := HN.out.1; omega)
        rw [← HN.out.1] at hr hmr
        have hbt : Below w2.heap.size w2 w3 := hA.grown hgr (by simp) (fun k hk => by cases hk; exact Nat.le_refl _)
        clear ho2 hgr
        go_wp2_with (at_builtin; refine wpList_append_run rfl (.tmp 37) (.tmp 38) 22 22 rfl _ _ rfl rfl _ _ hr ?_)
        go_meet
        case rel => exact ⟨g, cap, rfl, hmr, HT.out.1.below hbt, HT.out.2.1.below hbt, HT.out.2.2.trans (hbt.mono HT.out.2.2.size), Nat.le_trans HT.out.2.2.size hge⟩
    case rest =>
      obtain ⟨g, cap, rfl, hmr, ht1, ht2, hbw, hge⟩ := hcut
      clear HT
      have HW0 : Hid _ := hmr
      have HT2 : Hid (Tr wc b1 0 (.leaf []) ∧ Tr wc b2 0 (.leaf []) ∧ Below w.heap.size w wc) := ⟨ht1, ht2, hbw⟩
      clear hmr ht1 ht2 hbw
      go_wp2
      go_loopw [8] (fun iv wr => ∃ (j : Nat) (M : List OpT), iv = .int .i64 j ∧ j ≤ n ∧ MR wr g n M ∧ M.Perm ops ∧ Tr wr b1 0 (.leaf []) ∧ Tr wr b2 0 (.leaf []) ∧ Below w.heap.size w wr) (fun iv _ => n - (intOf iv).toNat)
      case atStart => exact ⟨0, ops, rfl, Nat.zero_le _, HW0.out, List.Perm.refl _, HT2.out.1, HT2.out.2.1, HT2.out.2.2⟩
      case round =>
        clear HW0 HT2
        obtain ⟨j, M, rfl, hj, hmr, hpm, ht1, ht2, hbw⟩ := hrel
        by_cases hlt : j < n ∧ j < kn
        · have hlo : j < by_.length := by have := HN.out; omega
          obtain ⟨bb, off, rfl, hcc⟩ := HO.out.2.at hlo
          have c0 := hcc wr hbw
          obtain ⟨x, hx⟩ : ∃ x, x = by_[j] := ⟨_, rfl⟩
          rw [← hx] at c0
          have hji : (j : Int) < (n : Int) := by omega
          have hji2 : (j : Int) < (kn : Int) := by omega
          clear hcc hx hlo hlt
          have hkk : ∃ kk : Nat, kk < n ∧ (wrap64 (x.tmod (n : Int) + (n : Int))).tmod (n : Int) = (kk : Int) := turn_lt (by omega) (by omega) x
          obtain ⟨kk, hkk1, hkk2⟩ := hkk
          go_upto_region 10 with fail
          have hkM : kk < M.length := by rw [hmr.len]; exact hkk1
          have hjM : j < M.length := by rw [hmr.len]; omega
          obtain ⟨e0, e1, e2⟩ := hmr.cl j hjM
          obtain ⟨f0, f1, f2⟩ := hmr.cl kk hkM
          have hfz := hmr.free
          obtain ⟨X, hX⟩ : ∃ X, X = M[j] := ⟨_, rfl⟩
          obtain ⟨Y, hY⟩ : ∃ Y, Y = M[kk] := ⟨_, rfl⟩
          rw [← hX] at e0 e1 e2
          rw [← hY] at f0 f1 f2
          have hki : (kk : Int) < (n : Int) := by omega
          have hW1 : ∀ o v, (o = kk * 3 ∧ v = Value.string Y.1) ∨ (o = kk * 3 + 1 ∧ v = .string Y.2.1) ∨ (o = kk * 3 + 2 ∧ v = .bool Y.2.2) → (st3 wr.drew g (j * 3) Y).cell? ⟨g, o, none⟩ = some v := by
            intro o v h
            rw [st3_cell (by rw [show wr.drew.cell? ⟨g, j * 3, none⟩ = wr.cell? ⟨g, j * 3, none⟩ from rfl, e0]; rfl) (by rw [show wr.drew.cell? ⟨g, j * 3 + 1, none⟩ = wr.cell? ⟨g, j * 3 + 1, none⟩ from rfl, e1]; rfl) (by rw [show wr.drew.cell? ⟨g, j * 3 + 2, none⟩ = wr.cell? ⟨g, j * 3 + 2, none⟩ from rfl, e2]; rfl)]
            rcases h with ⟨rfl, rfl⟩ | ⟨rfl, rfl⟩ | ⟨rfl, rfl⟩
            · by_cases q : kk = j
              · subst q; simp
              · rw [if_neg (by omega), if_neg (by omega), if_neg (by omega)]; exact f0
            · by_cases q : kk = j
              · subst q; simp
              · rw [if_neg (by omega), if_neg (by omega), if_neg (by omega)]; exact f1
            · by_cases q : kk = j
              · subst q; simp
              · rw [if_neg (by omega), if_neg (by omega), if_neg (by omega)]; exact f2
          have y0 := hW1 _ _ (.inl ⟨rfl, rfl⟩)
          have y1 := hW1 _ _ (.inr (.inl ⟨rfl, rfl⟩))
          have y2 := hW1 _ _ (.inr (.inr ⟨rfl, rfl⟩))
          clear hW1
          unfold st3 at y0 y1 y2
          have HS : Hid (MR (st3 (st3 wr g (j * 3) Y) g (kk * 3) X) g n (swp M j kk) ∧ (swp M j kk).Perm ops) := (by
            have := hmr.swap (i := j) (k := kk) (by omega) hkk1
            rw [List.getD_eq_getElem?_getD, List.getElem?_eq_getElem hkM, List.getD_eq_getElem?_getD, List.getElem?_eq_getElem hjM] at this
            simp only [Option.getD_some] at this
            rw [← hX, ← hY] at this
            exact ⟨this, (swp_perm hjM hkM).trans hpm⟩)
          have HTT : Hid (Tr wr b1 0 (.leaf []) ∧ Tr wr b2 0 (.leaf []) ∧ Below w.heap.size w wr ∧ ∃ cur, wr.heap[g]? = some (.cells cur 31 (0, 0))) := ⟨ht1, ht2, hbw, hmr.blk⟩
          obtain ⟨X0, X1, X2⟩ := X
          obtain ⟨Y0, Y1, Y2⟩ := Y
          dsimp only at e0 e1 e2 f0 f1 f2 y0 y1 y2
          clear hkk2 hmr hpm ht1 ht2 hbw hX hY hkM hjM c0
          by_cases hjk : kk = j
          · subst hjk
            have hX0 : X0 = Y0 := by rw [e0] at f0; simpa using f0
            have hX1 : X1 = Y1 := by rw [e1] at f1; simpa using f1
            have hX2 : X2 = Y2 := by rw [e2] at f2; simpa using f2
            subst hX0 hX1 hX2
            clear y0 y1 y2
            go_region_with (fail)
            all_goals
              (obtain ⟨W9, hW9⟩ : ∃ W9, W9 = (st3 (st3 wr g (kk * 3) (X0, X1, X2)) g (kk * 3) (X0, X1, X2)).drew := ⟨_, rfl⟩
               rw [show ((((((wr.setCell ⟨g, kk * 3, none⟩ (.string X0)).setCell ⟨g, kk * 3 + 1, none⟩ (.string X1)).setCell ⟨g, kk * 3 + 2, none⟩ (.bool X2)).setCell ⟨g, kk * 3, none⟩ (.string X0)).setCell ⟨g, kk * 3 + 1, none⟩ (.string X1)).setCell ⟨g, kk * 3 + 2, none⟩ (.bool X2)).drew = W9 from hW9.symm]
               have hke : Kep (fun q => q ≠ g) wr W9 := by rw [hW9]; exact ((st3_kep (by simp)).trans (st3_kep (by simp))).trans (Kep.drew _ _)
               have HM9 : Hid (MR W9 g n (swp M kk kk) ∧ (swp M kk kk).Perm ops ∧ Tr W9 b1 0 (.leaf []) ∧ Tr W9 b2 0 (.leaf []) ∧ Below w.heap.size w W9) := ⟨by rw [hW9]; exact HS.out.1.drew, HS.out.2, tr_empty HTT.out.1 HTT.out.2.2.2 hke, tr_empty HTT.out.2.1 HTT.out.2.2.2 hke, HTT.out.2.2.1.trans ((hke.mono (K' := fun q => q < w.heap.size) fun q _ hq => by have h5 : w.heap.size ≤ g := hge; show q ≠ g; omega).below HTT.out.2.2.1.size)⟩
               clear hW9 hke HS HTT hfz e0 e1 e2 f0 f1 f2
               go_wp2
               go_roundw
               case rel => exact ⟨kk + 1, _, by go_num, by omega, HM9.out.1, HM9.out.2.1, HM9.out.2.2.1, HM9.out.2.2.2.1, HM9.out.2.2.2.2⟩
               case measure => simp [intOf]; omega)
          · have q0 : ¬ j * 3 = kk * 3 := by omega
            have q1 : ¬ j * 3 + 1 = kk * 3 := by omega
            have q2 : ¬ j * 3 + 2 = kk * 3 := by omega
            have q3 : ¬ j * 3 = kk * 3 + 1 := by omega
            have q4 : ¬ j * 3 = kk * 3 + 2 := by omega
            have q5 : ¬ j * 3 + 1 = kk * 3 + 1 := by omega
            have q6 : ¬ j * 3 + 1 = kk * 3 + 2 := by omega
            have q7 : ¬ j * 3 + 2 = kk * 3 + 1 := by omega
            have q8 : ¬ j * 3 + 2 = kk * 3 + 2 := by omega
            have q9 : ¬ j = kk := by omega
            clear y0 y1 y2
            go_region_with (fail)
            all_goals clear q0 q1 q2 q3 q4 q5 q6 q7 q8 q9 hjk
            all_goals
              (obtain ⟨W9, hW9⟩ : ∃ W9, W9 = (st3 (st3 wr g (j * 3) (Y0, Y1, Y2)) g (kk * 3) (X0, X1, X2)).drew := ⟨_, rfl⟩
               rw [show ((((((wr.setCell ⟨g, j * 3, none⟩ (.string Y0)).setCell ⟨g, j * 3 + 1, none⟩ (.string Y1)).setCell ⟨g, j * 3 + 2, none⟩ (.bool Y2)).setCell ⟨g, kk * 3, none⟩ (.string X0)).setCell ⟨g, kk * 3 + 1, none⟩ (.string X1)).setCell ⟨g, kk * 3 + 2, none⟩ (.bool X2)).drew = W9 from hW9.symm]
               have hke : Kep (fun q => q ≠ g) wr W9 := by rw [hW9]; exact ((st3_kep (by simp)).trans (st3_kep (by simp))).trans (Kep.drew _ _)
               have HM9 : Hid (MR W9 g n (swp M j kk) ∧ (swp M j kk).Perm ops ∧ Tr W9 b1 0 (.leaf []) ∧ Tr W9 b2 0 (.leaf []) ∧ Below w.heap.size w W9) := ⟨by rw [hW9]; exact HS.out.1.drew, HS.out.2, tr_empty HTT.out.1 HTT.out.2.2.2 hke, tr_empty HTT.out.2.1 HTT.out.2.2.2 hke, HTT.out.2.2.1.trans ((hke.mono (K' := fun q => q < w.heap.size) fun q _ hq => by have h5 : w.heap.size ≤ g := hge; show q ≠ g; omega).below HTT.out.2.2.1.size)⟩
               clear hW9 hke HS HTT hfz e0 e1 e2 f0 f1 f2
               go_wp2
               go_roundw
               case rel => exact ⟨j + 1, _, by go_num, by omega, HM9.out.1, HM9.out.2.1, HM9.out.2.2.1, HM9.out.2.2.2.1, HM9.out.2.2.2.2⟩
               case measure => simp [intOf]; omega)
        · have HLT : Hid (¬ (j < n ∧ j < kn)) := hlt
          have HB1 : Hid (MR wr g n M ∧ M.Perm ops ∧ Tr wr b1 0 (.leaf []) ∧ Tr wr b2 0 (.leaf []) ∧ Below w.heap.size w wr) := ⟨hmr, hpm, ht1, ht2, hbw⟩
          clear hmr hpm ht1 ht2 hbw hlt
          go_upto_region 7 with fail
          go_cut [49] from 40 to 49 (fun s w' => s = .bool false ∧ w' = wr)
          case first =>
            by_cases hc : j < n
            · have hc1 : (j : Int) < (n : Int) := by omega
              have hc2 : ¬ (j : Int) < (kn : Int) := by have := HLT.out; omega
              go_wp2
              go_meet
              case rel => exact ⟨rfl, rfl⟩
            · have hc1 : ¬ (j : Int) < (n : Int) := by omega
              go_wp2
              go_meet
              case rel => exact ⟨rfl, rfl⟩
          case rest =>
            obtain ⟨rfl, rfl⟩ := hcut
            obtain ⟨W3, rfl⟩ : ∃ W3, W3 = wc := ⟨_, rfl⟩
            obtain ⟨hmr, hpm, ht1, ht2, hbw⟩ := HB1.out
            have HM : Hid (Ops W3 (some ⟨g, 0, none⟩) M ∧ M.length = n ∧ M.Perm ops ∧ Below w.heap.size w W3) := ⟨hmr.ops, hmr.len, hpm, hbw⟩
            have HTE : Hid (Tr W3 b1 0 (.leaf []) ∧ Tr W3 b2 0 (.leaf [])) := ⟨ht1, ht2⟩
            clear hmr hpm ht1 ht2 hbw HB1 HLT hj
            go_wp2
            go_loopw [5, 6, 10] (fun av bv iv wr => ∃ (i p1 h1 : Nat) (t1 : T) (p2 h2 : Nat) (t2 : T), av = .pointer (some ⟨p1, 0, none⟩) ∧ bv = .pointer (some ⟨p2, 0, none⟩) ∧ iv = .int .i64 i ∧ i ≤ n ∧ Tr wr p1 h1 t1 ∧ toL h1 t1 = PL ops i ∧ Tr wr p2 h2 t2 ∧ toL h2 t2 = PL M i ∧ Below W3.heap.size W3 wr ∧ ((ops.take i).map (·.1)).Nodup) (fun _ _ iv _ => n - (intOf iv).toNat)
            case atStart => exact ⟨0, b1, 0, _, b2, 0, _, rfl, rfl, rfl, Nat.zero_le _, HTE.out.1, rfl, HTE.out.2, rfl, Below.refl _ _, by simp⟩
            case round =>
              obtain ⟨i, p1, h1, t1, p2, h2, t2, rfl, rfl, rfl, hi, ht1, hl1, ht2, hl2, hb3, hnd⟩ := hrel
              clear HTE
              by_cases hlt : i < n
              · have hio : i < ops.length := by have := HN.out; omega
                have hiM : i < M.length := by have := HM.out.2.1; omega
                obtain ⟨bb, off, rfl, hcc⟩ := HO.out.1.at hio
                have hii : (i : Int) < (n : Int) := by omega
                obtain ⟨w0, rfl⟩ : ∃ w0, w0 = wr := ⟨_, rfl⟩
                have hbw0 : Below w.heap.size w w0 := HM.out.2.2.2.trans (hb3.mono HM.out.2.2.2.size)
                obtain ⟨x, hx⟩ : ∃ x, x = ops[i].1 := ⟨_, rfl⟩
                have HC : Hid (∀ w', Below w.heap.size w w' → w'.cell? ⟨bb, off + i * 3, none⟩ = some (.string x)) := (by
                  intro w' hb; rw [hx]; exact (hcc w' hb).1)
                have HK : Hid (∀ k, k < n → ∃ y, ops[k]? = some y ∧ ∀ w', Below w.heap.size w w' → w'.cell? ⟨bb, off + k * 3, none⟩ = some (.string y.1)) := (by
                  intro k hk
                  have hko : k < ops.length := by have := HN.out; omega
                  obtain ⟨bb2, off2, e, hc2⟩ := HO.out.1.at hko
                  simp only [Option.some.injEq, Addr.mk.injEq] at e
                  obtain ⟨rfl, rfl, _⟩ := e
                  exact ⟨ops[k], List.getElem?_eq_getElem hko, fun w' hb => (hc2 w' hb).1⟩)
                have HR : Hid (Tr w0 p1 h1 t1 ∧ toL h1 t1 = PL ops i ∧ Tr w0 p2 h2 t2 ∧ toL h2 t2 = PL M i ∧ Below W3.heap.size W3 w0 ∧ ((ops.take i).map (·.1)).Nodup ∧ Below w.heap.size w w0) := ⟨ht1, hl1, ht2, hl2, hb3, hnd, hbw0⟩
                have HX : Hid (x = ops[i].1) := hx
                clear ht1 hl1 ht2 hl2 hb3 hnd hbw0 hcc hx
                go_wp2
                go_loopw [11] (fun kv wk => ∃ k : Nat, kv = .int .i64 k ∧ k ≤ i ∧ Below w0.heap.size w0 wk ∧ ∀ k' y, k' < k → ops[k']? = some y → y.1 ≠ x) (fun kv _ => i - (intOf kv).toNat)
                case atStart => exact ⟨0, rfl, Nat.zero_le _, Below.refl _ _, fun k' y h => by omega⟩
                case round =>
                  obtain ⟨k, rfl, hk, hbk, hne⟩ := hrel
                  have hbwk : Below w.heap.size w wr := HR.out.2.2.2.2.2.2.trans (hbk.mono HR.out.2.2.2.2.2.2.size)
                  by_cases hki : k < i
                  · have hkI : (k : Int) < (i : Int) := by omega
                    have hkN : (k : Int) < (n : Int) := by omega
                    obtain ⟨y, hy, hcy⟩ := HK.out k (by omega)
                    have d0 := HC.out wr.drew hbwk.drew
                    have d1 := hcy wr.drew hbwk.drew
                    obtain ⟨y0, hy0⟩ : ∃ y0, y0 = y.1 := ⟨_, rfl⟩
                    rw [← hy0] at d1
                    have HNE : Hid (∀ k' y, k' < k → ops[k']? = some y → y.1 ≠ x) := hne
                    have HY : Hid (ops[k]? = some y ∧ y0 = y.1) := ⟨hy, hy0⟩
                    have HBK : Hid (Below w0.heap.size w0 wr ∧ Below w.heap.size w wr) := ⟨hbk, hbwk⟩
                    clear hcy hy hy0 hne hbk hbwk
                    by_cases hxy : y0 = x
                    · have ex : (y0.toList == x.toList) = true := by rw [hxy]; exact beq_self_eq_true _
                      clear hxy
                      go_wp2
                      go_region_held3 (fun w' => w'.cell? ⟨bb, off + k * 3, none⟩ = some (.string y0) ∧ w'.cell? ⟨bb, off + i * 3, none⟩ = some (.string x)) (go_keep) (fail)
                      go_wp2_with (go_at_call 9; refine Calls.mono (awake_any _) ?_; rintro e w5 ⟨rfl, hb5⟩)
                      exact ⟨_, results_tmp rfl _ _ _, rfl, HBK.out.2.drew.trans (hb5.mono HBK.out.2.size)⟩
                    · have ex : (y0.toList == x.toList) = false := by rw [eq_ba]; exact decide_eq_false hxy
                      have HXY : Hid (y0 ≠ x) := hxy
                      clear hxy
                      go_wp2
                      go_region_held3 (fun w' => w'.cell? ⟨bb, off + k * 3, none⟩ = some (.string y0) ∧ w'.cell? ⟨bb, off + i * 3, none⟩ = some (.string x)) (go_keep) (fail)
                      go_wp2
                      go_roundw
                      case rel =>
                        refine ⟨k + 1, by go_num, by omega, HBK.out.1.drew, fun k' y' hk' hy' => ?_⟩
                        by_cases e : k' = k
                        · subst e
                          rw [HY.out.1] at hy'
                          simp only [Option.some.injEq] at hy'
                          rw [← hy', ← HY.out.2]
                          exact HXY.out
                        · exact HNE.out k' y' (by omega) hy'
                      case measure => simp [intOf]; omega
                  · obtain rfl : k = i := by omega
                    have hkI : ¬ (k : Int) < (k : Int) := by omega
                    obtain ⟨ht1, hl1, ht2, hl2, hb3, hnd, hbw0⟩ := HR.out
                    obtain ⟨bb2, off2, eab, hcc⟩ := HO.out.1.at hio
                    simp only [Option.some.injEq, Addr.mk.injEq, and_true] at eab
                    obtain ⟨rfl, rfl⟩ := eab
                    obtain ⟨bm, om, eam, hcm⟩ := HM.out.1.at hiM
                    simp only [Option.some.injEq, Addr.mk.injEq, and_true] at eam
                    obtain ⟨rfl, rfl⟩ := eam
                    obtain ⟨y, hy⟩ : ∃ y, y = ops[k].2.1 := ⟨_, rfl⟩
                    obtain ⟨xm, hxm⟩ : ∃ xm, xm = M[k].1 := ⟨_, rfl⟩
                    obtain ⟨ym, hym⟩ : ∃ ym, ym = M[k].2.1 := ⟨_, rfl⟩
                    have hb3k : Below W3.heap.size W3 wr := hb3.trans (hbk.mono hb3.size)
                    have hD : Below wr.heap.size wr wr.drew := (Below.refl _ _).drew
                    have HND : Hid (((ops.take (k + 1)).map (·.1)).Nodup) := (by
                      show List.Nodup _
                      rw [List.take_succ_eq_append_getElem hio, List.map_append, List.nodup_append]
                      refine ⟨hnd, by simp, fun u hu v hv => ?_⟩
                      simp only [List.map_cons, List.map_nil, List.mem_singleton] at hv
                      subst hv
                      rw [List.mem_map] at hu
                      obtain ⟨o, ho, rfl⟩ := hu
                      obtain ⟨k', hk', rfl⟩ := List.getElem_of_mem ho
                      rw [List.length_take] at hk'
                      rw [List.getElem_take]
                      have := hne k' ops[k'] (by omega) (List.getElem?_eq_getElem (by omega))
                      rw [HX.out] at this
                      exact this)
                    have HP : Hid (Calls Try.prog 13 #[.pointer (some ⟨p1, 0, none⟩), .string x, .string y] wr.drew fun e w5 => ∃ q1, e = .returned (.pointer (some ⟨q1, 0, none⟩)) ∧ w5.cell? ⟨bb, off + k * 3, none⟩ = some (.string x) ∧ w5.cell? ⟨bb, off + k * 3 + 1, none⟩ = some (.string y) ∧ w5.drew.cell? ⟨g, 0 + k * 3, none⟩ = some (.string xm) ∧ w5.drew.cell? ⟨g, 0 + k * 3 + 1, none⟩ = some (.string ym) ∧
                        Calls Try.prog 13 #[.pointer (some ⟨p2, 0, none⟩), .string xm, .string ym] w5.drew fun e w6 => ∃ q2, e = .returned (.pointer (some ⟨q2, 0, none⟩)) ∧ w6.cell? ⟨g, 0 + k * 3, none⟩ = some (.string xm) ∧ w6.cell? ⟨g, 0 + k * 3 + 1, none⟩ = some (.string ym) ∧ ∃ h t h' t', Tr w6 q1 h t ∧ toL h t = PL ops (k + 1) ∧ Tr w6 q2 h' t' ∧ toL h' t' = PL M (k + 1) ∧ Below W3.heap.size W3 w6) := (by
                      have hlk : (PL ops k).length < 1000000000 := by have := PL_len ops k (by omega); omega
                      have hlm : (PL M k).length < 1000000000 := by have := PL_len M k (by omega); omega
                      refine Calls.mono (put_any p1 h1 t1 x y wr.drew ((ht1.below hbk).below hD) (by rw [hl1]; exact hlk)) ?_
                      rintro e w5 ⟨q1, rfl, h5, t5, g1, g2, g3⟩
                      have hb5 : Below w0.heap.size w0 w5 := (hbk.drew).trans (g3.mono hbk.size)
                      have hb5w := hbw0.trans (hb5.mono hbw0.size)
                      have hb5m := hb3.trans (hb5.mono hb3.size)
                      have k1 := hcc w5 hb5w
                      have k2 := hcm w5.drew hb5m.drew
                      refine ⟨q1, rfl, by rw [HX.out]; exact k1.1, by rw [hy]; exact k1.2.1, by rw [hxm]; exact k2.1, by rw [hym]; exact k2.2.1, ?_⟩
                      refine Calls.mono (put_any p2 h2 t2 xm ym w5.drew (ht2.below hb5.drew) (by rw [hl2]; exact hlm)) ?_
                      rintro e w6 ⟨q2, rfl, h6, t6, f1, f2, f3⟩
                      have hb6m := hb5m.drew.trans (f3.mono hb5m.size)
                      have k3 := hcm w6 hb6m
                      have hg56 : Below w5.heap.size w5 w6 := (Below.refl _ w5).drew.trans f3
                      refine ⟨q2, rfl, by rw [hxm]; exact k3.1, by rw [hym]; exact k3.2.1, h5, t5, h6, t6, g1.below hg56, ?_, f1, ?_, hb6m⟩
                      · rw [g2, hl1, PL_succ hio, HX.out, hy]
                      · rw [f2, hl2, PL_succ hiM, hxm, hym])
                    have d0 : wr.drew.cell? ⟨bb, off + k * 3, none⟩ = some (.string x) := by rw [HX.out]; exact (hcc wr.drew hbwk.drew).1
                    have d1 : wr.drew.cell? ⟨bb, off + k * 3 + 1, none⟩ = some (.string y) := by rw [hy]; exact (hcc wr.drew hbwk.drew).2.1
                    rw [Nat.zero_add] at HP
                    clear hcc hcm ht1 hl1 ht2 hl2 hb3 hnd hbw0 hbk hbwk hne hb3k hD hy hxm hym HR HC HK
                    go_wp2
                    go_region_held3 (fun w' => w'.cell? ⟨bb, off + k * 3, none⟩ = some (.string x) ∧ w'.cell? ⟨bb, off + k * 3 + 1, none⟩ = some (.string y)) (go_keep)
                      (first
                        | (go_at_call 13; refine Calls.mono HP.out ?_; rintro e w5 ⟨q1, rfl, s0, s1, m0, m1, hp2⟩))
                    clear HP d0 d1 s0 s1
                    go_wp2
                    go_region_held3 (fun w' => w'.cell? ⟨g, k * 3, none⟩ = some (.string xm) ∧ w'.cell? ⟨g, k * 3 + 1, none⟩ = some (.string ym)) (go_keep)
                      (first
                        | (go_at_call 13; refine Calls.mono hp2 ?_; rintro e w6 ⟨q2, rfl, s0, s1, hres⟩))
                    have HRES : Hid _ := hres
                    clear hp2 m0 m1 s0 s1 hres
                    go_wp2
                    go_roundw
                    case rel =>
                      obtain ⟨h, t, h', t', g1, g2, g3, g4, g5⟩ := HRES.out
                      exact ⟨k + 1, q1, h, t, q2, h', t', rfl, rfl, by go_num, by omega, g1, g2, g3, g4, g5, HND.out⟩
                    case measure => simp [intOf]; omega
              · obtain rfl : i = n := by omega
                have hii : ¬ (i : Int) < (i : Int) := by omega
                have hnd' : (ops.map (·.1)).Nodup := by have := hnd; rwa [HN.out.1, List.take_length] at this
                obtain ⟨L, hL⟩ : ∃ L, L = PL ops i := ⟨_, rfl⟩
                have hLM : PL M i = L := by
                  rw [hL]
                  have h5 := PL_alike hnd' HM.out.2.2.1
                  rwa [HM.out.2.1, ← HN.out.1] at h5
                have hLn : L.length = i := by rw [hL]; have h5 := PL_full hnd'; rwa [← HN.out.1] at h5
                rw [← hL] at hl1
                rw [hLM] at hl2
                have HLL : Hid (L.length = i) := hLn
                have HBW : Hid (Below w.heap.size w wr) := HM.out.2.2.2.trans (hb3.mono HM.out.2.2.2.size)
                have hi100 : i ≤ 100 := hn1
                clear hL hLM hLn hnd hnd' hb3 hlt hi
                go_wp2_with (go_at_call 18; refine Calls.mono (from_any p1 _ _) ?_; rintro e w5 ⟨rfl, rfl⟩)
                obtain ⟨W, hW⟩ : ∃ W, W = wr.alloc (.cells #[.slice none 0 0] 27) := ⟨_, rfl⟩
                have hz : W.heap.size = wr.heap.size + 1 := by rw [hW]; simp
                rw [← hW, ← hz]
                have hbW : Below wr.heap.size wr W := by rw [hW]; exact (Below.refl _ _).alloc (Nat.le_refl _) _
                have hcp : CP wr wr.heap.size [] (fun q => q = wr.heap.size) W (.slice none 0 0) := ⟨fun q => by simp [Value.ownBlock], by rw [hW]; exact heap_alloc_new wr _, World.ownsRow_nil _ _ _ _, hbW⟩
                have hsq := made_seq ⟨#[]⟩ ht1 hbW
                rw [from_all, hl1] at hsq
                have HZ : Hid (W.heap.size = wr.heap.size + 1) := hz
                have hzl : wr.heap.size < W.heap.size := by omega
                clear hW hz
                rename_i K hK
                refine wpIn_wide.1 (range_law (n := 0) (gf := 30) (lb := #[.pointer (some ⟨W.heap.size, 0, none⟩), .pointer (some ⟨W.heap.size + 1, 0, none⟩)]) rfl (enters_of Try.func30 (by kernel_rfl) rfl) hsq (made_lt hbW) (fun _ => rfl)
                  (fun pre M' W' => ∃ v, CP wr wr.heap.size pre M' W' v) (fun _ _ _ _ => False)
                  (fun pre M' W2 W4 h2 hk => by obtain ⟨v, h2⟩ := h2; exact ⟨v, h2.kept hk (by simp; omega) (by simp; omega)⟩) (fun _ _ _ _ _ h2 _ => h2)
                  (fun q => q = wr.heap.size) ?own ⟨_, hcp.kept ((made_kep (fun _ => True) W _ _).mono (K' := fun q => q < W.heap.size ∨ q = wr.heap.size) fun _ _ _ => trivial) hzl (by omega)⟩ ?act ?assign ?body ?done ?stop)
                case own =>
                  rintro q rfl
                  exact ⟨by rintro (h2 | h2 | h2) <;> omega, by simp; omega⟩
                case assign =>
                  intro m l' x W2 K hK
                  dsimp only [encP]
                  gi_wp2
                  exact hK
                case body =>
                  rintro m l' pre ⟨x, y⟩ M1 W2 ⟨v, h2⟩ hpre
                  have hq8 : pre.length < 1000000 := by
                    have h3 := hpre.length_le
                    have := HLL.out
                    simp at h3
                    omega
                  obtain ⟨v', w', hr, hbx, ⟨a', c', ev⟩, M', hst, hcp'⟩ := h2.snoc (Nat.le_refl _) x y hq8
                  have i1 := box_cell h2.box
                  have i2 := box_cell hbx
                  have i3 := box_free hbx
                  subst ev
                  have HE : Hid _ := (⟨hst, hcp'⟩ : _ ∧ _)
                  clear h2 hpre hbx hst hcp' hsq hcp hzl
                  gi_wp2_with (gi_at_builtin; refine wpListIn_append_run rfl (.tmp 136) (.tmp 140) 27 rfl _ _ rfl rfl _ _ hr ?_)
                  exact ⟨M', HE.out.1, _, HE.out.2⟩
                case done =>
                  rintro D M1 W2 hD hMD ⟨v, h2⟩ hdef
                  obtain ⟨a', c', rfl, hsl⟩ := Sl.own h2.row (pcs_one _)
                  have i1 := box_cell h2.box
                  have hsm := same_any p2 _ t2 L a' c' W2 (ht2.below h2.old) hl2 hsl (by have := HLL.out; omega)
                  rw [HLL.out] at i1 hsm
                  have hD2 : W.heap.size + 2 ≤ D := by simpa using hD
                  have HDD : Hid (w.heap.size ≤ D ∧ W2.heap[D]? = some (.deferred (some []))) := ⟨by have := HBW.out.size; omega, hdef⟩
                  have HB2 : Hid (∀ w5, Below W2.heap.size W2 w5 → w5.cell? ⟨wr.heap.size, 0, none⟩ = some (.slice a' i c') ∧ Below w.heap.size w w5 ∧ w5.heap[D]? = some (.deferred (some []))) := (by
                    intro w5 hb5
                    exact ⟨(hb5.cell (p := ⟨wr.heap.size, 0, none⟩) (cell_lt i1)).trans i1, (HBW.out.trans (h2.old.mono HBW.out.size)).trans (hb5.mono (by have := HBW.out.size; have := h2.old.size; omega)), (hb5.block D (Array.getElem?_eq_some_iff.1 hdef).1).trans hdef⟩)
                  clear h2 hsl hD hMD hdef hsq hcp hzl hD2
                  refine hK _ _ ?_
                  go_wp2_with (first
                    | (go_at_call 15; refine Calls.mono hsm ?_; rintro e w5 ⟨rfl, hb5⟩; have i2 := (HB2.out w5 hb5).1)
                    | (go_at_call 9; refine Calls.mono (awake_any _) ?_; rintro e w6 ⟨rfl, hb6⟩))
                  have hb56 : Below W2.heap.size W2 w6 := hb5.trans (hb6.mono hb5.size)
                  have hB := HB2.out w6 hb56
                  refine leaves_marks [D] w6 (by simp) (by simpa using hB.2.2) (fun W' hk => ⟨_, results_tmp rfl _ _ _, rfl, ?_⟩)
                  exact hB.2.1.trans ((hk.mono (K' := fun q => q < w.heap.size) fun q _ h3 h4 => by rw [List.mem_singleton] at h4; have := HDD.out.1; omega).below hB.2.1.size)
                case stop =>
                  rintro D c pre M1 W2 hD hMD hpre h2 hdef
                  exact h2.elim
end Go.Proofs.Ytpophalhmjchkaa

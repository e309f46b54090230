/-
  The document's With.
-/
import Derived.Test.YtpophalhmjchkaaRef
namespace Go.Proofs.Ytpophalhmjchkaa
open Go.RowKit

theorem info50 : (Try.prog.info? 50).map (fun i => (i.zero, i.size, i.bytes)) = some (some (.agg #[.string ⟨#[]⟩, .string ⟨#[]⟩]), 2, 32) := by kernel_rfl
theorem pair_sl50 {w : World} (k v : ByteArray) : Sl (w.alloc (.cells #[.string k, .string v] 50)) 2 (some ⟨w.heap.size, 0, none⟩) 1 1 (pcs [(k, v)]) := by
  have hblk := heap_alloc_new w (.cells #[.string k, .string v] 50)
  refine ⟨.inr ⟨_, 0, rfl, (Array.getElem?_eq_some_iff.1 hblk).1, fun j hj => ?_⟩, rfl, Nat.le_refl _, (by intro e; cases e), (by intro x e; cases e; rfl), pcs_one _, (by intro _ x e h; cases h), Av.none _⟩
  have hj2 : j < 2 := hj
  rw [Nat.zero_add, cell_blk hblk j]
  match j, hj2 with
  | 0, _ => rfl
  | 1, _ => rfl
theorem del_no {k : ByteArray} : ∀ {L : List KV}, getL k L = none → delL k L = L
  | [], _ => rfl
  | p :: ps, h => by
    rw [getL] at h
    rw [delL]
    split
    · rename_i h1
      rw [if_pos h1] at h
      rw [del_no h]
    · rename_i h1
      rw [if_neg h1] at h
      split
      · rfl
      · rename_i h2
        rw [if_neg h2] at h
        cases h
theorem own_base {w : World} {base b2 : Nat} {e : TypeId} {size : Nat} {v : Value} {n : Nat} {xs : List Value} (h : w.ownsRow base e size v n xs) (hb : b2 ≤ base) : w.ownsRow b2 e size v n xs := by
  obtain ⟨h1, h2 | ⟨g, cap, cur, e1, e2, e3⟩⟩ := h
  · exact ⟨h1, .inl h2⟩
  · exact ⟨h1, .inr ⟨g, cap, cur, e1, Nat.le_trans hb e2, e3⟩⟩
/-- The pairs with one more, or without one. -/
def withL (k v : ByteArray) (d : Bool) (L : List KV) : List KV := if d then delL k L else putL k v L
theorem with_code (k v : ByteArray) (d : Bool) (L : List KV) : withL k v d L = (L.take (lbS (keysP L) k) ++ if d then [] else [(k, v)]) ++ L.drop (if fdS (keysP L) k then lbS (keysP L) k + 1 else lbS (keysP L) k) := by
  cases d with
  | false =>
    rw [withL, if_neg (by simp), if_neg (by simp), put_code]
    split <;> rfl
  | true =>
    rw [withL, if_pos rfl, if_pos rfl, List.append_nil]
    cases hf : fdS (keysP L) k with
    | true => rw [del_code L hf, if_pos rfl]
    | false =>
      have hg : getL k L = none := by rw [get_code, hf]; rfl
      rw [del_no hg, if_neg (by simp), List.take_append_drop]

set_option maxHeartbeats 4000000 in
set_option maxRecDepth 20000 in
theorem refWith_any (a : Option Addr) (c : Nat) (L : List KV) (k v : ByteArray) (d : Bool) (w : World) (h : Sl w 2 a L.length c (pcs L)) (hs : Srt L) (hn : L.length < 100000000) :
    Calls Try.prog 14 #[.slice a L.length c, .agg #[.string k, .string v, .bool d]] w fun e w' => ∃ u, e = .returned u ∧ w'.ownsRow w.heap.size 50 2 u (withL k v d L).length (pcs (withL k v d L)) ∧ Below w.heap.size w w' := by
  obtain ⟨i0, hi, hz0, hz1, hz2⟩ := info_parts info50
  have hcode := with_code k v d L
  obtain ⟨R, hR⟩ : ∃ R, R = withL k v d L := ⟨_, rfl⟩
  rw [← hR] at hcode ⊢
  have hkl : (keysP L).length = L.length := by simp [keysP]
  have hJl := lbS_le (keysP L) k
  rw [hkl] at hJl
  have hks : (keysP L).Pairwise klt := by rw [keysP, List.pairwise_map]; exact hs
  have hlt := fun (i : Nat) (hi : i < L.length) => lbS_lt hks k (h := i) (by omega)
  have hkg : ∀ (i : Nat) (hi : i < L.length), (keysP L)[i]'(by omega) = L[i].1 := fun i hi => by simp [keysP]
  have hfd : ∀ (hj : lbS (keysP L) k < L.length), fdS (keysP L) k = decide (L[lbS (keysP L) k].1 = k) := fun hj => by rw [fdS_iff (by omega), hkg _ hj]
  have hfn : ¬ lbS (keysP L) k < L.length → fdS (keysP L) k = false := fun hj => fdS_no (by omega)
  obtain ⟨J, hJ⟩ : ∃ J, J = lbS (keysP L) k := ⟨_, rfl⟩
  obtain ⟨F, hF⟩ : ∃ F, F = fdS (keysP L) k := ⟨_, rfl⟩
  obtain ⟨n, hnl⟩ : ∃ n, n = L.length := ⟨_, rfl⟩
  have HA : Hid (∀ i, i < n → ∃ b off, a = some ⟨b, off, none⟩ ∧ ∃ x y, (∀ w1, Below w.heap.size w w1 → w1.cell? ⟨b, off + i * 2, none⟩ = some (.string x) ∧ w1.cell? ⟨b, off + i * 2 + 1, none⟩ = some (.string y)) ∧ Op.bytesLess x.toList k.toList = decide (i < J) ∧ (i = J → (x.toList == k.toList) = F) ∧ pcs (L.take (i + 1)) = pcs (L.take i) ++ pcs [(x, y)]) := (by
    intro i hi
    obtain ⟨b, off, rfl, hbl, hc⟩ := h.at (j := i * 2) (by rw [pcs_len]; omega)
    refine ⟨b, off, rfl, L[i].1, L[i].2, fun w1 hb1 => ⟨?_, ?_⟩, ?_, ?_, ?_⟩
    · have := (hb1.cell (p := ⟨b, off + i * 2, none⟩) hbl).trans (hc (i * 2) (by rw [pcs_len]; omega))
      rw [this]
      have e := (pcs_get (ps := L) (j := i) (by omega)).1
      rw [List.getElem?_eq_getElem (by rw [pcs_len]; omega)] at e
      exact e
    · have := (hb1.cell (p := ⟨b, off + (i * 2 + 1), none⟩) hbl).trans (hc (i * 2 + 1) (by rw [pcs_len]; omega))
      rw [← Nat.add_assoc] at this
      rw [this]
      have e := (pcs_get (ps := L) (j := i) (by omega)).2
      rw [List.getElem?_eq_getElem (by rw [pcs_len]; omega)] at e
      exact e
    · rw [less_klt]
      have := hlt i (by omega)
      rw [hkg i (by omega), ← hJ] at this
      exact decide_eq_decide.2 this
    · intro hij
      subst hij
      have := hfd (by omega)
      simp only [← hJ] at this
      rw [hF, this]
      by_cases he : L[i].1 = k
      · rw [he]; simp
      · rw [decide_eq_false he, beq_eq_false_iff_ne]
        exact fun e => he (ba_ext e)
    · rw [List.take_succ_eq_append_getElem (by omega), pcs_app])
  have HF : Hid (J = n → F = false) := (fun e => by rw [hF]; exact hfn (by omega))
  have HS : Hid (∀ w1, Below w.heap.size w w1 → Sl w1 2 a n c (pcs L)) := (fun w1 hb => by rw [hnl]; exact h.below hb)
  have HC : Hid (R = (L.take J ++ if d then [] else [(k, v)]) ++ L.drop (if F then J + 1 else J)) := (by rw [hF, hJ]; exact hcode)
  have HT : Hid (L.length = n) := hnl.symm
  rw [← hnl] at hn hJl ⊢
  rw [← hJ] at hJl
  obtain ⟨W, hW⟩ : ∃ W, W = w.alloc (.cells #[.string k, .string v, .bool d] 39) := ⟨_, rfl⟩
  have HW : Hid (W = w.alloc (.cells #[.string k, .string v, .bool d] 39)) := hW
  have hB : Below w.heap.size w W := by rw [hW]; exact (Below.refl _ _).alloc (Nat.le_refl _) _
  have HBW : Hid (∀ w1, Below W.heap.size W w1 → Below w.heap.size w w1) := fun w1 hb => hB.trans (hb.mono hB.size)
  have hblk : W.heap[w.heap.size]? = some (.cells #[.string k, .string v, .bool d] 39 (0, 0)) := by rw [hW]; exact heap_alloc_new w _
  have hbl : w.heap.size < W.heap.size := (Array.getElem?_eq_some_iff.1 hblk).1
  have HX : Hid (∀ w1, Below W.heap.size W w1 → w1.cell? ⟨w.heap.size, 0, none⟩ = some (.string k) ∧ w1.cell? ⟨w.heap.size, 1, none⟩ = some (.string v) ∧ w1.cell? ⟨w.heap.size, 2, none⟩ = some (.bool d)) := (fun w1 hb => ⟨(hb.cell (p := ⟨w.heap.size, 0, none⟩) hbl).trans (cell_blk hblk 0), (hb.cell (p := ⟨w.heap.size, 1, none⟩) hbl).trans (cell_blk hblk 1), (hb.cell (p := ⟨w.heap.size, 2, none⟩) hbl).trans (cell_blk hblk 2)⟩)
  have HLT : Hid (w.heap.size ≤ W.heap.size) := Nat.le_of_lt hbl
  clear h hs hcode hR hkl hks hlt hkg hfd hfn hJ hF hnl hW hB hblk hbl
  go_enter Try.func14, Try.ntmps14
  go_wp2
  go_loopw [5, 6] (fun u i wr => ∃ j : Nat, j ≤ J ∧ i = .int .i64 j ∧ wr.ownsRow W.heap.size 50 2 u j (pcs (L.take j)) ∧ Below W.heap.size W wr) (fun _ i _ => J - (intOf i).toNat)
  case atStart => exact ⟨0, Nat.zero_le _, rfl, by rw [← HW.out]; exact World.ownsRow_nil _ _ _ _, by rw [← HW.out]; exact Below.refl _ _⟩
  case round =>
    obtain ⟨j, hj, rfl, hown, hbw⟩ := hrel
    clear HW
    by_cases hjn : j < n
    · obtain ⟨b, off, rfl, x, y, hxy, hless, heq, htk⟩ := HA.out j hjn
      obtain ⟨d0, d1⟩ := hxy wr (HBW.out wr hbw)
      obtain ⟨x0, x1, x2⟩ := HX.out wr hbw
      have hji : (j : Int) < (n : Int) := by omega
      by_cases hjJ : j < J
      · have hl : Op.bytesLess x.toList k.toList = true := hless.trans (decide_eq_true hjJ)
        have HTK : Hid (pcs (L.take (j + 1)) = pcs (L.take j) ++ pcs [(x, y)]) := htk
        have HOB : Hid (∀ g, u5.ownBlock = some g → W.heap.size ≤ g) := fun g hg => (owns_lt hown g hg).1
        have HOWN : Hid (∀ m o, ((wr.drewN m).alloc o).ownsRow W.heap.size 50 2 u5 j (pcs (L.take j))) := fun m o => World.ownsRow.alloc (w := wr.drewN m) hown o
        have HBL : Hid (∀ m o, Below W.heap.size W ((wr.drewN m).alloc o)) := fun m o => (below_drewN hbw m).alloc hbw.size o
        have HKC : Hid (∀ m, (wr.drewN m).cell? ⟨b, off + j * 2, none⟩ = some (.string x) ∧ (wr.drewN m).cell? ⟨b, off + j * 2 + 1, none⟩ = some (.string y)) := fun m => ⟨d0, d1⟩
        clear hxy hless heq htk hown hbw HA HF HS HC HX HT HLT HBW
        go_wp2
        go_quiet (fail)
        obtain ⟨e0, e1⟩ := HKC.out nq
        obtain ⟨Z, hZ⟩ : ∃ Z, Z = wr.drewN nq := ⟨_, rfl⟩
        have hown := HOWN.out nq (.cells #[.string x, .string y] 50)
        have hbl := HBL.out nq (.cells #[.string x, .string y] 50)
        rw [← hZ] at e0 e1 hown hbl ⊢
        have hsl : Sl (Z.alloc (.cells #[.string x, .string y] 50)) 2 (some ⟨Z.heap.size, 0, none⟩) 1 1 (pcs [(x, y)]) := pair_sl50 x y
        have hsz := hbl.size
        clear HOWN HBL HKC hZ d0 d1
        go_wp2_with (at_builtin; refine wpList_append_sl rfl (.tmp 21) (.tmp 26) 27 rfl W.heap.size 50 i0 (.agg #[.string ⟨#[]⟩, .string ⟨#[]⟩]) 2 32 Try.underlying27 hi hz0 hz1 hz2 rfl (by decide) (by decide) _ j (pcs (L.take j)) rfl hown (some ⟨Z.heap.size, 0, none⟩) 1 1 (pcs [(x, y)]) rfl hsl (by omega) hsz ?_; intro v2 w2 ho2 hg2)
        go_roundw
        case rel => exact ⟨j + 1, by omega, by go_num, by rw [HTK.out]; exact ho2, hbl.grown hg2 hsz HOB.out⟩
        case measure => simp [intOf]; omega
      · have hjJ2 : J = j := by omega
        clear hj
        subst hjJ2
        have hl : Op.bytesLess x.toList k.toList = false := hless.trans (decide_eq_false hjJ)
        have hE := heq rfl
        cases F with
        | true =>
          have HFF : Hid (true = true) := rfl
          cases d with
          | true =>
            have hsn : (J + 1) ≤ n := by omega
            have HFIN : Hid (∀ v3 w3, w3.ownsRow W.heap.size 50 2 v3 (J + (n - (J + 1))) ((pcs (L.take J)) ++ pcs (L.drop (J + 1))) → Below W.heap.size W w3 → w3.ownsRow w.heap.size 50 2 v3 R.length (pcs R) ∧ Below w.heap.size w w3) := (by
              intro v3 w3 h3 hb3
              have hR := HC.out
              rw [HFF.out] at hR
              simp only [if_true, List.append_nil] at hR
              have hl : R.length = J + (n - (J + 1)) := by
                rw [hR]
                simp only [List.length_append, List.length_take, List.length_drop, HT.out]
                omega
              refine ⟨own_base ?_ HLT.out, HBW.out _ hb3⟩
              rw [hl, hR]
              simp only [pcs_app]
              exact h3)
            have HSLI : Hid (∀ w1, Below W.heap.size W w1 → ∃ a2, (∀ wx, (Instr.slice 27 (.slice (some ⟨b, off, none⟩) n c) (some (.int .i64 ((J : Int) + 1))) none none).run Try.prog wx = .ok (.slice a2 (n - (J + 1)) (c - (J + 1))) wx) ∧ Sl w1 2 a2 (n - (J + 1)) (c - (J + 1)) (pcs (L.drop (J + 1)))) := (by
              intro w1 hb1
              obtain ⟨a2, r1, r2⟩ := slice_lo Try.underlying27 hi hz1 (HS.out w1 (HBW.out w1 hb1)) (k := (J + 1)) hsn
              rw [← pcs_drop] at r2
              rw [show ((J + 1 : Nat) : Int) = (J : Int) + 1 from by omega] at r1
              exact ⟨a2, r1, r2⟩)
            have HOB : Hid (∀ g, u5.ownBlock = some g → W.heap.size ≤ g) := fun g hg => (owns_lt hown g hg).1
            have HOWN : Hid (∀ m, (wr.drewN m).ownsRow W.heap.size 50 2 u5 J (pcs (L.take J))) := fun m => hown
            have HBL : Hid (∀ m, Below W.heap.size W (wr.drewN m)) := fun m => below_drewN hbw m
            have HXY : Hid (∀ w1, Below W.heap.size W w1 → w1.cell? ⟨b, off + J * 2, none⟩ = some (.string x)) := fun w1 hb => (hxy w1 (HBW.out w1 hb)).1
            have hw1 : IntKind.i64.wrap ((J : Int) + 1) = (J : Int) + 1 := by rw [IntKind.wrap_i64]; omega
            clear hxy hless heq htk hown hbw HA HF HS HC HT HLT HBW HFF d1 x1 x2
            go_wp2
            go_quiet (fail)
            obtain ⟨Z, hZ⟩ : ∃ Z, Z = wr.drewN nq := ⟨_, rfl⟩
            have hownZ := HOWN.out nq
            have hbZ := HBL.out nq
            rw [← hZ] at hownZ hbZ ⊢
            obtain ⟨z0, z1, z2⟩ := HX.out Z hbZ
            clear HOWN HBL hZ d0 x0
            have zc := HXY.out Z hbZ
            go_wp2
            have HOB2 : Hid (∀ g, u5.ownBlock = some g → W.heap.size ≤ g) := fun g hg => (owns_lt hownZ g hg).1
            have HOWN2 : Hid (∀ m, (Z.drewN m).ownsRow W.heap.size 50 2 u5 J (pcs (L.take J))) := fun m => hownZ
            have HBL2 : Hid (∀ m, Below W.heap.size W (Z.drewN m)) := fun m => below_drewN hbZ m
            clear hownZ hbZ HOB
            go_quiet (fail)
            obtain ⟨Y, hY⟩ : ∃ Y, Y = Z.drewN nq := ⟨_, rfl⟩
            have hownY := HOWN2.out nq
            have hbY := HBL2.out nq
            rw [← hY] at hownY hbY ⊢
            obtain ⟨a2, r1, r2⟩ := HSLI.out Y hbY
            obtain ⟨n2, hn2⟩ : ∃ n2, n2 = n - (J + 1) := ⟨_, rfl⟩
            obtain ⟨c2, hc2⟩ : ∃ c2, c2 = c - (J + 1) := ⟨_, rfl⟩
            rw [← hn2, ← hc2] at r1 r2
            rw [← hn2] at HFIN
            have hnn : J + n2 ≤ 1000000000 := by omega
            have hszY := hbY.size
            clear HOWN2 HBL2 hY HSLI hn2 hc2
            go_wp2_with (at_builtin; refine wpList_append_sl rfl (.tmp 57) (.tmp 60) 27 rfl W.heap.size 50 i0 (.agg #[.string ⟨#[]⟩, .string ⟨#[]⟩]) 2 32 Try.underlying27 hi hz0 hz1 hz2 rfl (by decide) (by decide) _ J (pcs (L.take J)) rfl hownY a2 n2 c2 (pcs (L.drop (J + 1))) rfl r2 hnn hszY ?_; intro v3 w3 ho3 hg3)
            go_ret
            exact ⟨v3, rfl, HFIN.out v3 w3 ho3 (hbY.grown hg3 hszY HOB2.out)⟩

          | false =>
            have hsn : (J + 1) ≤ n := by omega
            have HFIN : Hid (∀ v3 w3, w3.ownsRow W.heap.size 50 2 v3 ((J + 1) + (n - (J + 1))) ((pcs (L.take J) ++ pcs [(k, v)]) ++ pcs (L.drop (J + 1))) → Below W.heap.size W w3 → w3.ownsRow w.heap.size 50 2 v3 R.length (pcs R) ∧ Below w.heap.size w w3) := (by
              intro v3 w3 h3 hb3
              have hR := HC.out
              rw [HFF.out] at hR
              simp only [if_true, if_false, Bool.false_eq_true] at hR
              have hl : R.length = (J + 1) + (n - (J + 1)) := by
                rw [hR]
                simp only [List.length_append, List.length_take, List.length_drop, HT.out, List.length_cons, List.length_nil]
                omega
              refine ⟨own_base ?_ HLT.out, HBW.out _ hb3⟩
              rw [hl, hR]
              simp only [pcs_app]
              exact h3)
            have HSLI : Hid (∀ w1, Below W.heap.size W w1 → ∃ a2, (∀ wx, (Instr.slice 27 (.slice (some ⟨b, off, none⟩) n c) (some (.int .i64 ((J : Int) + 1))) none none).run Try.prog wx = .ok (.slice a2 (n - (J + 1)) (c - (J + 1))) wx) ∧ Sl w1 2 a2 (n - (J + 1)) (c - (J + 1)) (pcs (L.drop (J + 1)))) := (by
              intro w1 hb1
              obtain ⟨a2, r1, r2⟩ := slice_lo Try.underlying27 hi hz1 (HS.out w1 (HBW.out w1 hb1)) (k := (J + 1)) hsn
              rw [← pcs_drop] at r2
              rw [show ((J + 1 : Nat) : Int) = (J : Int) + 1 from by omega] at r1
              exact ⟨a2, r1, r2⟩)
            have HOB : Hid (∀ g, u5.ownBlock = some g → W.heap.size ≤ g) := fun g hg => (owns_lt hown g hg).1
            have HOWN : Hid (∀ m, (wr.drewN m).ownsRow W.heap.size 50 2 u5 J (pcs (L.take J))) := fun m => hown
            have HBL : Hid (∀ m, Below W.heap.size W (wr.drewN m)) := fun m => below_drewN hbw m
            have HXY : Hid (∀ w1, Below W.heap.size W w1 → w1.cell? ⟨b, off + J * 2, none⟩ = some (.string x)) := fun w1 hb => (hxy w1 (HBW.out w1 hb)).1
            have hw1 : IntKind.i64.wrap ((J : Int) + 1) = (J : Int) + 1 := by rw [IntKind.wrap_i64]; omega
            clear hxy hless heq htk hown hbw HA HF HS HC HT HLT HBW HFF d1 x1 x2
            go_wp2
            go_quiet (fail)
            obtain ⟨Z, hZ⟩ : ∃ Z, Z = wr.drewN nq := ⟨_, rfl⟩
            have hownZ := HOWN.out nq
            have hbZ := HBL.out nq
            rw [← hZ] at hownZ hbZ ⊢
            obtain ⟨z0, z1, z2⟩ := HX.out Z hbZ
            clear HOWN HBL hZ d0 x0
            have zc := HXY.out Z hbZ
            have hownA : (Z.alloc (.cells #[.string k, .string v] 50)).ownsRow W.heap.size 50 2 u5 J (pcs (L.take J)) := World.ownsRow.alloc hownZ _
            have hbA : Below W.heap.size W (Z.alloc (.cells #[.string k, .string v] 50)) := hbZ.alloc hbZ.size _
            have hsl : Sl (Z.alloc (.cells #[.string k, .string v] 50)) 2 (some ⟨Z.heap.size, 0, none⟩) 1 1 (pcs [(k, v)]) := pair_sl50 k v
            have hsz := hbA.size
            go_wp2_with (at_builtin; refine wpList_append_sl rfl (.tmp 33) (.tmp 39) 27 rfl W.heap.size 50 i0 (.agg #[.string ⟨#[]⟩, .string ⟨#[]⟩]) 2 32 Try.underlying27 hi hz0 hz1 hz2 rfl (by decide) (by decide) _ J (pcs (L.take J)) rfl hownA (some ⟨Z.heap.size, 0, none⟩) 1 1 (pcs [(k, v)]) rfl hsl (by omega) hsz ?_; intro v2 w2 ho2 hg2; have hb2 := hbA.grown hg2 hsz HOB.out; obtain ⟨g0, g1, g2⟩ := HX.out w2 hb2; have gc := HXY.out w2 hb2; clear hownA hbA hsl hsz hg2 hownZ hbZ)
            have HOB2 : Hid (∀ g, v2.ownBlock = some g → W.heap.size ≤ g) := fun g hg => (owns_lt ho2 g hg).1
            have HOWN2 : Hid (∀ m, (w2.drewN m).ownsRow W.heap.size 50 2 v2 (J + 1) (pcs (L.take J) ++ pcs [(k, v)])) := fun m => ho2
            have HBL2 : Hid (∀ m, Below W.heap.size W (w2.drewN m)) := fun m => below_drewN hb2 m
            clear ho2 hb2 HOB
            go_quiet (fail)
            obtain ⟨Y, hY⟩ : ∃ Y, Y = w2.drewN nq := ⟨_, rfl⟩
            have hownY := HOWN2.out nq
            have hbY := HBL2.out nq
            rw [← hY] at hownY hbY ⊢
            obtain ⟨a2, r1, r2⟩ := HSLI.out Y hbY
            obtain ⟨n2, hn2⟩ : ∃ n2, n2 = n - (J + 1) := ⟨_, rfl⟩
            obtain ⟨c2, hc2⟩ : ∃ c2, c2 = c - (J + 1) := ⟨_, rfl⟩
            rw [← hn2, ← hc2] at r1 r2
            rw [← hn2] at HFIN
            have hnn : (J + 1) + n2 ≤ 1000000000 := by omega
            have hszY := hbY.size
            clear HOWN2 HBL2 hY HSLI hn2 hc2
            go_wp2_with (at_builtin; refine wpList_append_sl rfl (.tmp 57) (.tmp 60) 27 rfl W.heap.size 50 i0 (.agg #[.string ⟨#[]⟩, .string ⟨#[]⟩]) 2 32 Try.underlying27 hi hz0 hz1 hz2 rfl (by decide) (by decide) _ (J + 1) (pcs (L.take J) ++ pcs [(k, v)]) rfl hownY a2 n2 c2 (pcs (L.drop (J + 1))) rfl r2 hnn hszY ?_; intro v3 w3 ho3 hg3)
            go_ret
            exact ⟨v3, rfl, HFIN.out v3 w3 ho3 (hbY.grown hg3 hszY HOB2.out)⟩

        | false =>
          have HFF : Hid (false = false) := rfl
          cases d with
          | true =>
            have hsn : J ≤ n := by omega
            have HFIN : Hid (∀ v3 w3, w3.ownsRow W.heap.size 50 2 v3 (J + (n - J)) ((pcs (L.take J)) ++ pcs (L.drop J)) → Below W.heap.size W w3 → w3.ownsRow w.heap.size 50 2 v3 R.length (pcs R) ∧ Below w.heap.size w w3) := (by
              intro v3 w3 h3 hb3
              have hR := HC.out
              rw [HFF.out] at hR
              simp only [if_true, if_false, Bool.false_eq_true, List.append_nil] at hR
              have hl : R.length = J + (n - J) := by
                rw [hR]
                simp only [List.length_append, List.length_take, List.length_drop, HT.out]
                omega
              refine ⟨own_base ?_ HLT.out, HBW.out _ hb3⟩
              rw [hl, hR]
              simp only [pcs_app]
              exact h3)
            have HSLI : Hid (∀ w1, Below W.heap.size W w1 → ∃ a2, (∀ wx, (Instr.slice 27 (.slice (some ⟨b, off, none⟩) n c) (some (.int .i64 ((J : Int)))) none none).run Try.prog wx = .ok (.slice a2 (n - J) (c - J)) wx) ∧ Sl w1 2 a2 (n - J) (c - J) (pcs (L.drop J))) := (by
              intro w1 hb1
              obtain ⟨a2, r1, r2⟩ := slice_lo Try.underlying27 hi hz1 (HS.out w1 (HBW.out w1 hb1)) (k := J) hsn
              rw [← pcs_drop] at r2
              skip
              exact ⟨a2, r1, r2⟩)
            have HOB : Hid (∀ g, u5.ownBlock = some g → W.heap.size ≤ g) := fun g hg => (owns_lt hown g hg).1
            have HOWN : Hid (∀ m, (wr.drewN m).ownsRow W.heap.size 50 2 u5 J (pcs (L.take J))) := fun m => hown
            have HBL : Hid (∀ m, Below W.heap.size W (wr.drewN m)) := fun m => below_drewN hbw m
            have HXY : Hid (∀ w1, Below W.heap.size W w1 → w1.cell? ⟨b, off + J * 2, none⟩ = some (.string x)) := fun w1 hb => (hxy w1 (HBW.out w1 hb)).1
            have hw1 : IntKind.i64.wrap ((J : Int) + 1) = (J : Int) + 1 := by rw [IntKind.wrap_i64]; omega
            clear hxy hless heq htk hown hbw HA HF HS HC HT HLT HBW HFF d1 x1 x2
            go_wp2
            go_quiet (fail)
            obtain ⟨Z, hZ⟩ : ∃ Z, Z = wr.drewN nq := ⟨_, rfl⟩
            have hownZ := HOWN.out nq
            have hbZ := HBL.out nq
            rw [← hZ] at hownZ hbZ ⊢
            obtain ⟨z0, z1, z2⟩ := HX.out Z hbZ
            clear HOWN HBL hZ d0 x0
            have zc := HXY.out Z hbZ
            go_wp2
            have HOB2 : Hid (∀ g, u5.ownBlock = some g → W.heap.size ≤ g) := fun g hg => (owns_lt hownZ g hg).1
            have HOWN2 : Hid (∀ m, (Z.drewN m).ownsRow W.heap.size 50 2 u5 J (pcs (L.take J))) := fun m => hownZ
            have HBL2 : Hid (∀ m, Below W.heap.size W (Z.drewN m)) := fun m => below_drewN hbZ m
            clear hownZ hbZ HOB
            go_quiet (fail)
            obtain ⟨Y, hY⟩ : ∃ Y, Y = Z.drewN nq := ⟨_, rfl⟩
            have hownY := HOWN2.out nq
            have hbY := HBL2.out nq
            rw [← hY] at hownY hbY ⊢
            obtain ⟨a2, r1, r2⟩ := HSLI.out Y hbY
            obtain ⟨n2, hn2⟩ : ∃ n2, n2 = n - J := ⟨_, rfl⟩
            obtain ⟨c2, hc2⟩ : ∃ c2, c2 = c - J := ⟨_, rfl⟩
            rw [← hn2, ← hc2] at r1 r2
            rw [← hn2] at HFIN
            have hnn : J + n2 ≤ 1000000000 := by omega
            have hszY := hbY.size
            clear HOWN2 HBL2 hY HSLI hn2 hc2
            go_wp2_with (at_builtin; refine wpList_append_sl rfl (.tmp 57) (.tmp 60) 27 rfl W.heap.size 50 i0 (.agg #[.string ⟨#[]⟩, .string ⟨#[]⟩]) 2 32 Try.underlying27 hi hz0 hz1 hz2 rfl (by decide) (by decide) _ J (pcs (L.take J)) rfl hownY a2 n2 c2 (pcs (L.drop J)) rfl r2 hnn hszY ?_; intro v3 w3 ho3 hg3)
            go_ret
            exact ⟨v3, rfl, HFIN.out v3 w3 ho3 (hbY.grown hg3 hszY HOB2.out)⟩

          | false =>
            have hsn : J ≤ n := by omega
            have HFIN : Hid (∀ v3 w3, w3.ownsRow W.heap.size 50 2 v3 ((J + 1) + (n - J)) ((pcs (L.take J) ++ pcs [(k, v)]) ++ pcs (L.drop J)) → Below W.heap.size W w3 → w3.ownsRow w.heap.size 50 2 v3 R.length (pcs R) ∧ Below w.heap.size w w3) := (by
              intro v3 w3 h3 hb3
              have hR := HC.out
              rw [HFF.out] at hR
              simp only [if_false, Bool.false_eq_true] at hR
              have hl : R.length = (J + 1) + (n - J) := by
                rw [hR]
                simp only [List.length_append, List.length_take, List.length_drop, HT.out, List.length_cons, List.length_nil]
                omega
              refine ⟨own_base ?_ HLT.out, HBW.out _ hb3⟩
              rw [hl, hR]
              simp only [pcs_app]
              exact h3)
            have HSLI : Hid (∀ w1, Below W.heap.size W w1 → ∃ a2, (∀ wx, (Instr.slice 27 (.slice (some ⟨b, off, none⟩) n c) (some (.int .i64 ((J : Int)))) none none).run Try.prog wx = .ok (.slice a2 (n - J) (c - J)) wx) ∧ Sl w1 2 a2 (n - J) (c - J) (pcs (L.drop J))) := (by
              intro w1 hb1
              obtain ⟨a2, r1, r2⟩ := slice_lo Try.underlying27 hi hz1 (HS.out w1 (HBW.out w1 hb1)) (k := J) hsn
              rw [← pcs_drop] at r2
              skip
              exact ⟨a2, r1, r2⟩)
            have HOB : Hid (∀ g, u5.ownBlock = some g → W.heap.size ≤ g) := fun g hg => (owns_lt hown g hg).1
            have HOWN : Hid (∀ m, (wr.drewN m).ownsRow W.heap.size 50 2 u5 J (pcs (L.take J))) := fun m => hown
            have HBL : Hid (∀ m, Below W.heap.size W (wr.drewN m)) := fun m => below_drewN hbw m
            have HXY : Hid (∀ w1, Below W.heap.size W w1 → w1.cell? ⟨b, off + J * 2, none⟩ = some (.string x)) := fun w1 hb => (hxy w1 (HBW.out w1 hb)).1
            have hw1 : IntKind.i64.wrap ((J : Int) + 1) = (J : Int) + 1 := by rw [IntKind.wrap_i64]; omega
            clear hxy hless heq htk hown hbw HA HF HS HC HT HLT HBW HFF d1 x1 x2
            go_wp2
            go_quiet (fail)
            obtain ⟨Z, hZ⟩ : ∃ Z, Z = wr.drewN nq := ⟨_, rfl⟩
            have hownZ := HOWN.out nq
            have hbZ := HBL.out nq
            rw [← hZ] at hownZ hbZ ⊢
            obtain ⟨z0, z1, z2⟩ := HX.out Z hbZ
            clear HOWN HBL hZ d0 x0
            have zc := HXY.out Z hbZ
            have hownA : (Z.alloc (.cells #[.string k, .string v] 50)).ownsRow W.heap.size 50 2 u5 J (pcs (L.take J)) := World.ownsRow.alloc hownZ _
            have hbA : Below W.heap.size W (Z.alloc (.cells #[.string k, .string v] 50)) := hbZ.alloc hbZ.size _
            have hsl : Sl (Z.alloc (.cells #[.string k, .string v] 50)) 2 (some ⟨Z.heap.size, 0, none⟩) 1 1 (pcs [(k, v)]) := pair_sl50 k v
            have hsz := hbA.size
            go_wp2_with (at_builtin; refine wpList_append_sl rfl (.tmp 33) (.tmp 39) 27 rfl W.heap.size 50 i0 (.agg #[.string ⟨#[]⟩, .string ⟨#[]⟩]) 2 32 Try.underlying27 hi hz0 hz1 hz2 rfl (by decide) (by decide) _ J (pcs (L.take J)) rfl hownA (some ⟨Z.heap.size, 0, none⟩) 1 1 (pcs [(k, v)]) rfl hsl (by omega) hsz ?_; intro v2 w2 ho2 hg2; have hb2 := hbA.grown hg2 hsz HOB.out; obtain ⟨g0, g1, g2⟩ := HX.out w2 hb2; have gc := HXY.out w2 hb2; clear hownA hbA hsl hsz hg2 hownZ hbZ)
            have HOB2 : Hid (∀ g, v2.ownBlock = some g → W.heap.size ≤ g) := fun g hg => (owns_lt ho2 g hg).1
            have HOWN2 : Hid (∀ m, (w2.drewN m).ownsRow W.heap.size 50 2 v2 (J + 1) (pcs (L.take J) ++ pcs [(k, v)])) := fun m => ho2
            have HBL2 : Hid (∀ m, Below W.heap.size W (w2.drewN m)) := fun m => below_drewN hb2 m
            clear ho2 hb2 HOB
            go_quiet (fail)
            obtain ⟨Y, hY⟩ : ∃ Y, Y = w2.drewN nq := ⟨_, rfl⟩
            have hownY := HOWN2.out nq
            have hbY := HBL2.out nq
            rw [← hY] at hownY hbY ⊢
            obtain ⟨a2, r1, r2⟩ := HSLI.out Y hbY
            obtain ⟨n2, hn2⟩ : ∃ n2, n2 = n - J := ⟨_, rfl⟩
            obtain ⟨c2, hc2⟩ : ∃ c2, c2 = c - J := ⟨_, rfl⟩
            rw [← hn2, ← hc2] at r1 r2
            rw [← hn2] at HFIN
            have hnn : (J + 1) + n2 ≤ 1000000000 := by omega
            have hszY := hbY.size
            clear HOWN2 HBL2 hY HSLI hn2 hc2
            go_wp2_with (at_builtin; refine wpList_append_sl rfl (.tmp 57) (.tmp 60) 27 rfl W.heap.size 50 i0 (.agg #[.string ⟨#[]⟩, .string ⟨#[]⟩]) 2 32 Try.underlying27 hi hz0 hz1 hz2 rfl (by decide) (by decide) _ (J + 1) (pcs (L.take J) ++ pcs [(k, v)]) rfl hownY a2 n2 c2 (pcs (L.drop J)) rfl r2 hnn hszY ?_; intro v3 w3 ho3 hg3)
            go_ret
            exact ⟨v3, rfl, HFIN.out v3 w3 ho3 (hbY.grown hg3 hszY HOB2.out)⟩


    · have hjJ2 : J = j := by omega
      have HJN : Hid (J = n) := (show J = n by omega)
      clear hj
      subst hjJ2
      have hji : ¬ ((J : Int) < (n : Int)) := by omega
      obtain ⟨x0, x1, x2⟩ := HX.out wr hbw
      clear x0 x1 x2
      cases d with
      | true =>
        have hsn : J ≤ n := by omega
        have HFIN : Hid (∀ v3 w3, w3.ownsRow W.heap.size 50 2 v3 (J + (n - J)) ((pcs (L.take J)) ++ pcs (L.drop J)) → Below W.heap.size W w3 → w3.ownsRow w.heap.size 50 2 v3 R.length (pcs R) ∧ Below w.heap.size w w3) := (by
          intro v3 w3 h3 hb3
          have hR := HC.out
          rw [HF.out HJN.out] at hR
          simp only [if_true, if_false, Bool.false_eq_true, List.append_nil] at hR
          have hl : R.length = J + (n - J) := by
            rw [hR]
            simp only [List.length_append, List.length_take, List.length_drop, HT.out]
            omega
          refine ⟨own_base ?_ HLT.out, HBW.out _ hb3⟩
          rw [hl, hR]
          simp only [pcs_app]
          exact h3)
        have HSLI : Hid (∀ w1, Below W.heap.size W w1 → ∃ a2, (∀ wx, (Instr.slice 27 (.slice a n c) (some (.int .i64 ((J : Int)))) none none).run Try.prog wx = .ok (.slice a2 (n - J) (c - J)) wx) ∧ Sl w1 2 a2 (n - J) (c - J) (pcs (L.drop J))) := (by
          intro w1 hb1
          obtain ⟨a2, r1, r2⟩ := slice_lo Try.underlying27 hi hz1 (HS.out w1 (HBW.out w1 hb1)) (k := J) hsn
          rw [← pcs_drop] at r2
          skip
          exact ⟨a2, r1, r2⟩)
        have HOB : Hid (∀ g, u5.ownBlock = some g → W.heap.size ≤ g) := fun g hg => (owns_lt hown g hg).1
        have HOWN : Hid (∀ m, (wr.drewN m).ownsRow W.heap.size 50 2 u5 J (pcs (L.take J))) := fun m => hown
        have HBL : Hid (∀ m, Below W.heap.size W (wr.drewN m)) := fun m => below_drewN hbw m
        clear hown hbw HA HF HS HC HT HLT HBW
        go_wp2
        go_quiet (fail)
        obtain ⟨Z, hZ⟩ : ∃ Z, Z = wr.drewN nq := ⟨_, rfl⟩
        have hownZ := HOWN.out nq
        have hbZ := HBL.out nq
        rw [← hZ] at hownZ hbZ ⊢
        obtain ⟨z0, z1, z2⟩ := HX.out Z hbZ
        clear HOWN HBL hZ 
        go_wp2
        have HOB2 : Hid (∀ g, u5.ownBlock = some g → W.heap.size ≤ g) := fun g hg => (owns_lt hownZ g hg).1
        have HOWN2 : Hid (∀ m, (Z.drewN m).ownsRow W.heap.size 50 2 u5 J (pcs (L.take J))) := fun m => hownZ
        have HBL2 : Hid (∀ m, Below W.heap.size W (Z.drewN m)) := fun m => below_drewN hbZ m
        clear hownZ hbZ HOB
        go_quiet (fail)
        obtain ⟨Y, hY⟩ : ∃ Y, Y = Z.drewN nq := ⟨_, rfl⟩
        have hownY := HOWN2.out nq
        have hbY := HBL2.out nq
        rw [← hY] at hownY hbY ⊢
        obtain ⟨a2, r1, r2⟩ := HSLI.out Y hbY
        obtain ⟨n2, hn2⟩ : ∃ n2, n2 = n - J := ⟨_, rfl⟩
        obtain ⟨c2, hc2⟩ : ∃ c2, c2 = c - J := ⟨_, rfl⟩
        rw [← hn2, ← hc2] at r1 r2
        rw [← hn2] at HFIN
        have hnn : J + n2 ≤ 1000000000 := by omega
        have hszY := hbY.size
        clear HOWN2 HBL2 hY HSLI hn2 hc2
        go_wp2_with (at_builtin; refine wpList_append_sl rfl (.tmp 57) (.tmp 60) 27 rfl W.heap.size 50 i0 (.agg #[.string ⟨#[]⟩, .string ⟨#[]⟩]) 2 32 Try.underlying27 hi hz0 hz1 hz2 rfl (by decide) (by decide) _ J (pcs (L.take J)) rfl hownY a2 n2 c2 (pcs (L.drop J)) rfl r2 hnn hszY ?_; intro v3 w3 ho3 hg3)
        go_ret
        exact ⟨v3, rfl, HFIN.out v3 w3 ho3 (hbY.grown hg3 hszY HOB2.out)⟩

      | false =>
        have hsn : J ≤ n := by omega
        have HFIN : Hid (∀ v3 w3, w3.ownsRow W.heap.size 50 2 v3 ((J + 1) + (n - J)) ((pcs (L.take J) ++ pcs [(k, v)]) ++ pcs (L.drop J)) → Below W.heap.size W w3 → w3.ownsRow w.heap.size 50 2 v3 R.length (pcs R) ∧ Below w.heap.size w w3) := (by
          intro v3 w3 h3 hb3
          have hR := HC.out
          rw [HF.out HJN.out] at hR
          simp only [if_false, Bool.false_eq_true] at hR
          have hl : R.length = (J + 1) + (n - J) := by
            rw [hR]
            simp only [List.length_append, List.length_take, List.length_drop, HT.out, List.length_cons, List.length_nil]
            omega
          refine ⟨own_base ?_ HLT.out, HBW.out _ hb3⟩
          rw [hl, hR]
          simp only [pcs_app]
          exact h3)
        have HSLI : Hid (∀ w1, Below W.heap.size W w1 → ∃ a2, (∀ wx, (Instr.slice 27 (.slice a n c) (some (.int .i64 ((J : Int)))) none none).run Try.prog wx = .ok (.slice a2 (n - J) (c - J)) wx) ∧ Sl w1 2 a2 (n - J) (c - J) (pcs (L.drop J))) := (by
          intro w1 hb1
          obtain ⟨a2, r1, r2⟩ := slice_lo Try.underlying27 hi hz1 (HS.out w1 (HBW.out w1 hb1)) (k := J) hsn
          rw [← pcs_drop] at r2
          skip
          exact ⟨a2, r1, r2⟩)
        have HOB : Hid (∀ g, u5.ownBlock = some g → W.heap.size ≤ g) := fun g hg => (owns_lt hown g hg).1
        have HOWN : Hid (∀ m, (wr.drewN m).ownsRow W.heap.size 50 2 u5 J (pcs (L.take J))) := fun m => hown
        have HBL : Hid (∀ m, Below W.heap.size W (wr.drewN m)) := fun m => below_drewN hbw m
        clear hown hbw HA HF HS HC HT HLT HBW
        go_wp2
        go_quiet (fail)
        obtain ⟨Z, hZ⟩ : ∃ Z, Z = wr.drewN nq := ⟨_, rfl⟩
        have hownZ := HOWN.out nq
        have hbZ := HBL.out nq
        rw [← hZ] at hownZ hbZ ⊢
        obtain ⟨z0, z1, z2⟩ := HX.out Z hbZ
        clear HOWN HBL hZ 
        have hownA : (Z.alloc (.cells #[.string k, .string v] 50)).ownsRow W.heap.size 50 2 u5 J (pcs (L.take J)) := World.ownsRow.alloc hownZ _
        have hbA : Below W.heap.size W (Z.alloc (.cells #[.string k, .string v] 50)) := hbZ.alloc hbZ.size _
        have hsl : Sl (Z.alloc (.cells #[.string k, .string v] 50)) 2 (some ⟨Z.heap.size, 0, none⟩) 1 1 (pcs [(k, v)]) := pair_sl50 k v
        have hsz := hbA.size
        go_wp2_with (at_builtin; refine wpList_append_sl rfl (.tmp 33) (.tmp 39) 27 rfl W.heap.size 50 i0 (.agg #[.string ⟨#[]⟩, .string ⟨#[]⟩]) 2 32 Try.underlying27 hi hz0 hz1 hz2 rfl (by decide) (by decide) _ J (pcs (L.take J)) rfl hownA (some ⟨Z.heap.size, 0, none⟩) 1 1 (pcs [(k, v)]) rfl hsl (by omega) hsz ?_; intro v2 w2 ho2 hg2; have hb2 := hbA.grown hg2 hsz HOB.out; obtain ⟨g0, g1, g2⟩ := HX.out w2 hb2; skip; clear hownA hbA hsl hsz hg2 hownZ hbZ)
        have HOB2 : Hid (∀ g, v2.ownBlock = some g → W.heap.size ≤ g) := fun g hg => (owns_lt ho2 g hg).1
        have HOWN2 : Hid (∀ m, (w2.drewN m).ownsRow W.heap.size 50 2 v2 (J + 1) (pcs (L.take J) ++ pcs [(k, v)])) := fun m => ho2
        have HBL2 : Hid (∀ m, Below W.heap.size W (w2.drewN m)) := fun m => below_drewN hb2 m
        clear ho2 hb2 HOB
        go_quiet (fail)
        obtain ⟨Y, hY⟩ : ∃ Y, Y = w2.drewN nq := ⟨_, rfl⟩
        have hownY := HOWN2.out nq
        have hbY := HBL2.out nq
        rw [← hY] at hownY hbY ⊢
        obtain ⟨a2, r1, r2⟩ := HSLI.out Y hbY
        obtain ⟨n2, hn2⟩ : ∃ n2, n2 = n - J := ⟨_, rfl⟩
        obtain ⟨c2, hc2⟩ : ∃ c2, c2 = c - J := ⟨_, rfl⟩
        rw [← hn2, ← hc2] at r1 r2
        rw [← hn2] at HFIN
        have hnn : (J + 1) + n2 ≤ 1000000000 := by omega
        have hszY := hbY.size
        clear HOWN2 HBL2 hY HSLI hn2 hc2
        go_wp2_with (at_builtin; refine wpList_append_sl rfl (.tmp 57) (.tmp 60) 27 rfl W.heap.size 50 i0 (.agg #[.string ⟨#[]⟩, .string ⟨#[]⟩]) 2 32 Try.underlying27 hi hz0 hz1 hz2 rfl (by decide) (by decide) _ (J + 1) (pcs (L.take J) ++ pcs [(k, v)]) rfl hownY a2 n2 c2 (pcs (L.drop J)) rfl r2 hnn hszY ?_; intro v3 w3 ho3 hg3)
        go_ret
        exact ⟨v3, rfl, HFIN.out v3 w3 ho3 (hbY.grown hg3 hszY HOB2.out)⟩


end Go.Proofs.Ytpophalhmjchkaa

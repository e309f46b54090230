/-
  The document's Query.
-/
import Derived.Test.YtnmffehmjgknkaaGreatDoorRqA
import Derived.Test.YtnmffehmjgknkaaGreatDoorRefSplit
namespace Go.Proofs.YtnmffehmjgknkaaGreatDoor
open Go.RowKit

set_option maxRecDepth 20000 in
set_option maxHeartbeats 1000000 in
theorem refQuery_any (t : List UInt8) (w : World) (hl : t.length ≤ 100000000) :
    Calls Tryz.prog 39 #[.string ⟨t.toArray⟩] w fun e w' => ∃ v, e = .returned (.tuple #[.string ⟨(Lib.cut t [63]).1.toArray⟩, v]) ∧ w'.ownsRow w.heap.size 61 2 v (qryL t).length (hcs (qryL t)) ∧ Below w.heap.size w w' := by
  obtain ⟨i0, hi, hz0, hz1, hz2⟩ := info_parts info61
  have hcl := cut_len t [63]
  have HC := (show Hid _ from refCut_any t 63 w (by omega))
  have HQ : Hid (qryL t = (splitL 38 (Lib.cut t [63]).2.1).filterMap pairL) := rfl
  generalize (Lib.cut t [63]).2.2 = fd at *
  generalize (Lib.cut t [63]).2.1 = qs at *
  generalize (Lib.cut t [63]).1 = pt at *
  have hql : qs.length ≤ 100000000 := by omega
  clear hcl
  go_enter Tryz.func39, Tryz.ntmps39
  go_wp2_with fail
  refine Calls.mono HC.out ?_
  rintro e w1 ⟨rfl, hb1⟩
  have HSp := (show Hid _ from refSplit_any ⟨qs.toArray⟩ 38 w1 (by rw [mk_size]; omega))
  have HB1 : Hid (Below w.heap.size w w1) := hb1
  clear hb1 HC
  go_wp2_with fail
  refine Calls.mono HSp.out ?_
  rintro e w2 ⟨vS, rfl, hoS, hb2⟩
  rw [splitS_toB] at hoS
  obtain ⟨aS, cS, rfl, hs2⟩ := hoS.strs
  rw [toB_len]
  have hsp : ∀ y ∈ splitL 38 qs, y.length ≤ 100000000 := fun y hy => by have := piece_size hy; omega
  have hSl : (splitL 38 qs).length ≤ 100000001 := by rw [splitL_length]; have := List.count_le_length (a := (38 : UInt8)) (l := qs); omega
  generalize hSe : splitL 38 qs = S at *
  clear hSe
  have HS2 : Hid (Strs w2 aS (toB S) ∧ Below w.heap.size w w2 ∧ ∀ y ∈ S, y.length ≤ 100000000) := ⟨hs2, HB1.out.trans (hb2.mono HB1.out.size), hsp⟩
  clear hs2 hb2 HSp hsp HB1 hoS
  go_wp2
  go_loopw [7, 9] (fun v i wr => ∃ k : Nat, k ≤ S.length ∧ i = .int .i64 k ∧ wr.ownsRow w2.heap.size 61 2 v ((S.take k).filterMap pairL).length (hcs ((S.take k).filterMap pairL)) ∧ Below w2.heap.size w2 wr) (fun _ i _ => S.length - (intOf i).toNat)
  case atStart => exact ⟨0, Nat.zero_le _, rfl, World.ownsRow_nil _ _ _ _, Below.refl _ _⟩
  case round =>
    obtain ⟨k, hk, rfl, hown, hb⟩ := hrel
    by_cases hlt : k < S.length
    · obtain ⟨g, og, hge, hcS⟩ : ∃ g og, aS = some ⟨g, og, none⟩ ∧ wr.cell? ⟨g, og + k, none⟩ = some (.string ⟨(S[k]).toArray⟩) := by
        rcases HS2.out.1 with hnil | ⟨b2, off2, he2, hbs2, hc2⟩
        · have := congrArg List.length hnil
          rw [toB_len] at this
          simp at this
          rw [this] at hlt
          simp at hlt
        · have h1 := hc2 k (by rw [toB_len]; exact hlt)
          rw [toB_at] at h1
          exact ⟨b2, off2, he2, (hb.cell (p := ⟨b2, off2 + k, none⟩) hbs2).trans h1⟩
      subst hge
      have hks : (S[k]).length ≤ 100000000 := HS2.out.2.2 _ (List.getElem_mem hlt)
      have h1 := fm_no hlt
      have h2 := fm_yes hlt
      obtain ⟨x, hx⟩ : ∃ x, x = S[k] := ⟨_, rfl⟩
      rw [← hx] at hcS hks h1 h2
      clear hx
      have hki : (k : Int) < (S.length : Int) := by omega
      have hkk : (0 : Int) ≤ (k : Int) := by omega
      by_cases hx0 : x = []
      · have hxb : (x == []) = true := by rw [hx0]; rfl
        have HN := (show Hid (wr.ownsRow w2.heap.size 61 2 u7 ((S.take (k + 1)).filterMap pairL).length (hcs ((S.take (k + 1)).filterMap pairL)) ∧ Below w2.heap.size w2 wr) from ⟨by rw [h1 hx0]; exact hown, hb⟩)
        clear h1 h2 hx0 hown hb
        go_wp2
        go_roundw
        case rel => exact ⟨k + 1, by omega, by go_num, HN.out.1, HN.out.2⟩
        case measure => simp [intOf]; omega
      · have hxb : (x == []) = false := by rw [beq_eq_false_iff_ne]; exact hx0
        have HC2 := (show Hid _ from refCut_any x 61 wr (by omega))
        have hfl : ((S.take k).filterMap pairL).length ≤ k := Nat.le_trans (List.length_filterMap_le _ _) (List.length_take_le _ _)
        have HE := (show Hid _ from h2 hx0)
        have HO := (show Hid (wr.ownsRow w2.heap.size 61 2 u7 ((S.take k).filterMap pairL).length (hcs ((S.take k).filterMap pairL)) ∧ Below w2.heap.size w2 wr) from ⟨hown, hb⟩)
        clear h1 h2 hx0 hown hb
        generalize (Lib.cut x [61]).2.2 = f2 at *
        generalize (Lib.cut x [61]).2.1 = vl at *
        generalize (Lib.cut x [61]).1 = nm at *
        generalize (S.take k).filterMap pairL = hs at *
        go_wp2_with fail
        refine Calls.mono HC2.out ?_
        rintro e w3 ⟨rfl, hb3⟩
        have HO3 := (show Hid (w3.ownsRow w2.heap.size 61 2 u7 hs.length (hcs hs) ∧ Below w2.heap.size w2 w3) from ⟨own_md HO.out.1 (Md.ofBelow (F := fun _ => False) hb3) (fun _ _ h => h), HO.out.2.trans (hb3.mono HO.out.2.size)⟩)
        have hsz3 := HO3.out.2.size
        clear HC2 hb3
        go_wp2_with (at_builtin; refine wpList_append_own _ rfl (.tmp 41) (.tmp 45) 22 rfl w2.heap.size 61 i0 (.agg #[.string ⟨#[]⟩, .string ⟨#[]⟩]) 2 32 Tryz.underlying22 hi hz0 hz1 hz2 rfl (by decide) _ hs.length _ rfl (World.ownsRow.alloc HO3.out.1 _) ⟨w3.heap.size, 0, none⟩ 1 1 [.string ⟨nm.toArray⟩, .string ⟨vl.toArray⟩] rfl rfl (cell_two_new _ _ _ _) (two_one _ _) (by unfold maxLen; omega) (by omega) (by simp; omega) ?_; intro v5 w5 hown5 hgrow5 _)
        have HR := (show Hid (w5.ownsRow w2.heap.size 61 2 v5 ((S.take (k + 1)).filterMap pairL).length (hcs ((S.take (k + 1)).filterMap pairL)) ∧ Below w2.heap.size w2 w5) from ⟨by rw [HE.out, List.length_append, hcs_app]; exact hown5, (HO3.out.2.alloc hsz3 _).grown hgrow5 (by simp; omega) (fun j hj => (HO3.out.1.lt j hj).1)⟩)
        clear hown5 hgrow5
        go_wp2
        go_roundw
        case rel => exact ⟨k + 1, by omega, by go_num, HR.out.1, HR.out.2⟩
        case measure => simp [intOf]; omega
    · obtain rfl : k = S.length := by omega
      rw [List.take_length] at hown
      have HF : Hid (wr.ownsRow w.heap.size 61 2 u7 (qryL t).length (hcs (qryL t)) ∧ Below w.heap.size w wr) := by rw [HQ.out]; exact ⟨own_le hown HS2.out.2.1.size, HS2.out.2.1.trans (hb.mono HS2.out.2.1.size)⟩
      clear hown hb
      go_wp2
      go_ret2
      exact ⟨_, rfl, HF.out.1, HF.out.2⟩
end Go.Proofs.YtnmffehmjgknkaaGreatDoor

/-
  http.Query (out of the seat of stage 16).
-/
import Derived.Test.YtnmffehmjgknkaaGreatDoorSpA
import Derived.Test.YtnmffehmjgknkaaGreatDoorMd
import Derived.Laws.AppendOwnNone
namespace Go.Proofs.YtnmffehmjgknkaaGreatDoor
open Go.RowKit

theorem info61 : (Tryz.prog.info? 61).map (fun i => (i.zero, i.size, i.bytes)) = some (some (.agg #[.string ⟨#[]⟩, .string ⟨#[]⟩]), 2, 32) := by kernel_rfl
def hcs (hs : List Hd) : List Value := hs.flatMap fun h => [.string ⟨h.1.toArray⟩, .string ⟨h.2.toArray⟩]
theorem hcs_app (L M : List Hd) : hcs (L ++ M) = hcs L ++ hcs M := by simp [hcs]
theorem cell_two_new (w : World) (a b : Value) (t : TypeId) : ∀ j u, [a, b][j]? = some u → (w.alloc (.cells #[a, b] t)).cell? ((⟨w.heap.size, 0, none⟩ : Addr).add j) = some u := by
  intro j u hj
  rw [Addr.add_lit, World.cell?_alloc_mark]
  simpa using hj
theorem two_one (x y : ByteArray) : ∀ u ∈ [Value.string x, .string y], u.oneCell' = true := by
  intro u hu
  simp at hu
  rcases hu with rfl | rfl <;> rfl
theorem own_le {w : World} {base base' size n : Nat} {e : TypeId} {v : Value} {xs : List Value} (h : w.ownsRow base e size v n xs) (hb : base' ≤ base) : w.ownsRow base' e size v n xs :=
  ⟨h.1, h.2.elim Or.inl (fun ⟨g, cap, cur, hv, hg, r⟩ => Or.inr ⟨g, cap, cur, hv, Nat.le_trans hb hg, r⟩)⟩
def pairL (x : List UInt8) : Option Hd := if x = [] then none else some ((Lib.cut x [61]).1, (Lib.cut x [61]).2.1)
def qryL (t : List UInt8) : List Hd := (splitL 38 (Lib.cut t [63]).2.1).filterMap pairL
theorem fm_no {L : List (List UInt8)} {k : Nat} (hk : k < L.length) (h : L[k] = []) : (L.take (k + 1)).filterMap pairL = (L.take k).filterMap pairL := by
  rw [List.take_succ_eq_append_getElem hk, List.filterMap_append]
  simp [pairL, h]
theorem fm_yes {L : List (List UInt8)} {k : Nat} (hk : k < L.length) (h : L[k] ≠ []) : (L.take (k + 1)).filterMap pairL = (L.take k).filterMap pairL ++ [((Lib.cut L[k] [61]).1, (Lib.cut L[k] [61]).2.1)] := by
  rw [List.take_succ_eq_append_getElem hk, List.filterMap_append]
  simp [pairL, h]
set_option maxRecDepth 20000 in
set_option maxHeartbeats 1000000 in
theorem query_any (t : List UInt8) (w : World) (hl : t.length ≤ 100000000) (hm : Mx w) :
    Calls Tryz.prog 31 #[.string ⟨t.toArray⟩] w fun e w' => ∃ v, e = .returned (.tuple #[.string ⟨(Lib.cut t [63]).1.toArray⟩, v]) ∧ w'.ownsRow w.heap.size 61 2 v (qryL t).length (hcs (qryL t)) ∧ Below w.heap.size w w' := by
  obtain ⟨i0, hi, hz0, hz1, hz2⟩ := info_parts info61
  have hcl := cut_len t [63]
  have HC := (show Hid _ from cut_any t [63] w (by omega) hm)
  have HQ : Hid (qryL t = (splitL 38 (Lib.cut t [63]).2.1).filterMap pairL) := rfl
  have HM : Hid (Mx w) := hm
  generalize (Lib.cut t [63]).2.2 = fd at *
  generalize (Lib.cut t [63]).2.1 = qs at *
  generalize (Lib.cut t [63]).1 = pt at *
  have hql : qs.length ≤ 100000000 := by omega
  clear hcl hm
  go_enter Tryz.func31, Tryz.ntmps31
  go_wp2_with fail
  refine Calls.mono HC.out ?_
  rintro e w1 ⟨rfl, hb1⟩
  have HSp := (show Hid _ from split_any ⟨qs.toArray⟩ 38 w1 (by rw [mk_size]; omega) (HM.out.below hb1 (Nat.le_refl _)))
  have HB1 : Hid (Below w.heap.size w w1) := hb1
  clear hb1 HC
  go_wp2_with fail
  refine Calls.mono HSp.out ?_
  rintro e w2 ⟨g, rfl, hs2, hb2⟩
  rw [splitS_toB] at hs2 ⊢
  rw [toB_len]
  have hsp : ∀ y ∈ splitL 38 qs, y.length ≤ 100000000 := fun y hy => by have := piece_size hy; omega
  have hSl : (splitL 38 qs).length ≤ 100000001 := by rw [splitL_length]; have := List.count_le_length (a := (38 : UInt8)) (l := qs); omega
  generalize hSe : splitL 38 qs = S at *
  clear hSe
  have HS2 : Hid (Strs w2 (some ⟨g, 0, none⟩) (toB S) ∧ Below w.heap.size w w2 ∧ ∀ y ∈ S, y.length ≤ 100000000) := ⟨hs2, HB1.out.trans (hb2.mono HB1.out.size), hsp⟩
  clear hs2 hb2 HSp hsp HB1
  go_wp2
  go_loopw [3, 20] (fun v i wr => ∃ k : Nat, k ≤ S.length ∧ i = .int .i64 k ∧ wr.ownsRow w2.heap.size 61 2 v ((S.take k).filterMap pairL).length (hcs ((S.take k).filterMap pairL)) ∧ Below w2.heap.size w2 wr) (fun _ i _ => S.length - (intOf i).toNat)
  case atStart => exact ⟨0, Nat.zero_le _, rfl, World.ownsRow_nil _ _ _ _, Below.refl _ _⟩
  case round =>
    obtain ⟨k, hk, rfl, hown, hb⟩ := hrel
    by_cases hlt : k < S.length
    · have hcS : wr.cell? ⟨g, k, none⟩ = some (.string ⟨(S[k]).toArray⟩) := by
        rcases HS2.out.1 with hnil | ⟨b2, off2, he2, hbs2, hc2⟩
        · have := congrArg List.length hnil
          rw [toB_len] at this
          simp at this
          rw [this] at hlt
          simp at hlt
        · simp only [Option.some.injEq, Addr.mk.injEq, and_true] at he2
          obtain ⟨rfl, rfl⟩ := he2
          have h1 := hc2 k (by rw [toB_len]; exact hlt)
          rw [toB_at, Nat.zero_add] at h1
          exact (hb.cell (p := ⟨g, k, none⟩) hbs2).trans h1
      have hks : (S[k]).length ≤ 100000000 := HS2.out.2.2 _ (List.getElem_mem hlt)
      have h1 := fm_no hlt
      have h2 := fm_yes hlt
      obtain ⟨x, hx⟩ : ∃ x, x = S[k] := ⟨_, rfl⟩
      rw [← hx] at hcS hks h1 h2
      clear hx
      have hki : (k : Int) < (S.length : Int) := by omega
      have hkk : (0 : Int) ≤ (k : Int) := by omega
      by_cases hx0 : x = []
      · have hxb : (x == []) = true := by rw [hx0]; rfl
        have HN := (show Hid (wr.ownsRow w2.heap.size 61 2 u3 ((S.take (k + 1)).filterMap pairL).length (hcs ((S.take (k + 1)).filterMap pairL)) ∧ Below w2.heap.size w2 wr) from ⟨by rw [h1 hx0]; exact hown, hb⟩)
        clear h1 h2 hx0 hown hb
        go_wp2
        go_roundw
        case rel => exact ⟨k + 1, by omega, by go_num, HN.out.1, HN.out.2⟩
        case measure => simp [intOf]; omega
      · have hxb : (x == []) = false := by rw [beq_eq_false_iff_ne]; exact hx0
        have HC2 := (show Hid _ from cut_any x [61] wr (by omega) (HM.out.below (HS2.out.2.1.trans (hb.mono HS2.out.2.1.size)) (Nat.le_refl _)))
        have hfl : ((S.take k).filterMap pairL).length ≤ k := Nat.le_trans (List.length_filterMap_le _ _) (List.length_take_le _ _)
        have HE := (show Hid _ from h2 hx0)
        have HO := (show Hid (wr.ownsRow w2.heap.size 61 2 u3 ((S.take k).filterMap pairL).length (hcs ((S.take k).filterMap pairL)) ∧ Below w2.heap.size w2 wr) from ⟨hown, hb⟩)
        clear h1 h2 hx0 hown hb
        generalize (Lib.cut x [61]).2.2 = f2 at *
        generalize (Lib.cut x [61]).2.1 = vl at *
        generalize (Lib.cut x [61]).1 = nm at *
        generalize (S.take k).filterMap pairL = hs at *
        go_wp2_with fail
        refine Calls.mono HC2.out ?_
        rintro e w3 ⟨rfl, hb3⟩
        have HO3 := (show Hid (w3.ownsRow w2.heap.size 61 2 u3 hs.length (hcs hs) ∧ Below w2.heap.size w2 w3) from ⟨own_md HO.out.1 (Md.ofBelow (F := fun _ => False) hb3) (fun _ _ h => h), HO.out.2.trans (hb3.mono HO.out.2.size)⟩)
        have hsz3 := HO3.out.2.size
        clear HC2 hb3
        go_wp2_with (at_builtin; refine wpList_append_own _ rfl (.tmp 32) (.tmp 36) 22 rfl w2.heap.size 61 i0 (.agg #[.string ⟨#[]⟩, .string ⟨#[]⟩]) 2 32 Tryz.underlying22 hi hz0 hz1 hz2 rfl (by decide) _ hs.length _ rfl (World.ownsRow.alloc HO3.out.1 _) ⟨w3.heap.size, 0, none⟩ 1 1 [.string ⟨nm.toArray⟩, .string ⟨vl.toArray⟩] rfl rfl (cell_two_new _ _ _ _) (two_one _ _) (by unfold maxLen; omega) (by omega) (by simp; omega) ?_; intro v5 w5 hown5 hgrow5 _)
        have HR := (show Hid (w5.ownsRow w2.heap.size 61 2 v5 ((S.take (k + 1)).filterMap pairL).length (hcs ((S.take (k + 1)).filterMap pairL)) ∧ Below w2.heap.size w2 w5) from ⟨by rw [HE.out, List.length_append, hcs_app]; exact hown5, (HO3.out.2.alloc hsz3 _).grown hgrow5 (by simp; omega) (fun j hj => (HO3.out.1.lt j hj).1)⟩)
        clear hown5 hgrow5
        go_wp2
        go_roundw
        case rel => exact ⟨k + 1, by omega, by go_num, HR.out.1, HR.out.2⟩
        case measure => simp [intOf]; omega
    · obtain rfl : k = S.length := by omega
      rw [List.take_length] at hown
      have HF : Hid (wr.ownsRow w.heap.size 61 2 u3 (qryL t).length (hcs (qryL t)) ∧ Below w.heap.size w wr) := by rw [HQ.out]; exact ⟨own_le hown HS2.out.2.1.size, HS2.out.2.1.trans (hb.mono HS2.out.2.1.size)⟩
      clear hown hb
      go_wp2
      go_ret2
      exact ⟨_, rfl, HF.out.1, HF.out.2⟩
end Go.Proofs.YtnmffehmjgknkaaGreatDoor

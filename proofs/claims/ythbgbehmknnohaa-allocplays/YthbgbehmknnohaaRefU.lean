/-
  The document's Runs by its contract; the law's comparison of runs.
-/
import Derived.Test.YthbgbehmknnohaaRefR
namespace Go.Proofs.Ythbgbehmknnohaa
open Go.RowKit Go.Shelf

theorem Rws.ownE {w : World} {B : Nat} {e : TypeId} {v : Value} {xs : List (Nat × Nat)} (h : w.ownsRow B e 2 v xs.length (rcs xs)) : ∃ a c, v = .slice a xs.length c ∧ Rws w B a xs := by
  have h0 := h
  obtain ⟨hl, ⟨rfl, h1⟩ | ⟨g, cap, cur, rfl, hb, hg, hr⟩⟩ := h
  · refine ⟨none, 0, by rw [h1], .inl ?_⟩
    exact List.eq_nil_of_length_eq_zero h1
  · refine ⟨_, cap, rfl, .inr ⟨g, rfl, hb, (Array.getElem?_eq_some_iff.1 hg).1, fun j hj => ?_⟩⟩
    obtain ⟨e1, e2⟩ := rcs_get hj
    have q1 := h0.cells (g := g) rfl _ _ e1
    have q2 := h0.cells (g := g) rfl _ _ e2
    rw [Addr.add_lit, Nat.zero_add] at q1 q2
    exact ⟨q1, q2⟩
/-- The runs of the first j units, in a row of one's own. -/
structure RO (w : World) (xs : List (Nat × Nat)) (v : Value) (W : World) : Prop where
  row : W.ownsRow w.heap.size 67 2 v xs.length (rcs xs)
  old : Below w.heap.size w W
theorem RO.snoc {w : World} {xs : List (Nat × Nat)} {v : Value} {W : World} (h : RO w xs v W) (x y : Nat) (hn : xs.length < 1000000) :
    ∃ v' w', (∀ ty, (Builtin.append_ #[45, 45] ty #[v, .slice (some ⟨W.heap.size, 0, none⟩) 1 1]).run Try.prog (W.alloc (.cells #[.int .i64 (x : Int), .int .i64 (y : Int)] 67)) = .ok v' w') ∧ RO w (xs ++ [(x, y)]) v' w' := by
  obtain ⟨i0, hi, hz0, hz1, hz2⟩ := info_parts info67
  have hA : Kep (fun _ => True) W (W.alloc (.cells #[.int .i64 (x : Int), .int .i64 (y : Int)] 67)) := Kep.alloc _ W _
  have hrow : (W.alloc (.cells #[.int .i64 (x : Int), .int .i64 (y : Int)] 67)).ownsRow w.heap.size 67 2 v xs.length (rcs xs) := own_kep h.row (fun g hg => hA.keep g (owns_lt h.row g hg).2 trivial)
  have hnews : ∀ j u, (rcs [(x, y)])[j]? = some u → (W.alloc (.cells #[.int .i64 (x : Int), .int .i64 (y : Int)] 67)).cell? ((⟨W.heap.size, 0, none⟩ : Addr).add j) = some u := by
    intro j u hj
    rw [Addr.add_lit, cell_blk (heap_alloc_new W _), Nat.zero_add]
    simpa [rcs] using hj
  have hos := h.old.size
  obtain ⟨v', w', hr, h2, h3, _⟩ := append_own2 (P := Try.prog) (W.alloc (.cells #[.int .i64 (x : Int), .int .i64 (y : Int)] 67)) w.heap.size 45 0 67 i0 _ 2 16 Try.underlying45 hi hz0 hz1 hz2 rfl (by decide) v xs.length (rcs xs) hrow ⟨W.heap.size, 0, none⟩ 1 1 (rcs [(x, y)]) rfl hnews (by simp [rcs, Value.oneCell']) (by unfold maxLen; omega) (by omega) (by simp; omega)
  refine ⟨v', w', fun ty => hr, ⟨?_, ?_⟩⟩
  · rw [List.length_append, rcs_app]
    exact h2
  · exact (h.old.alloc h.old.size _).grown h3 (by simp; omega) (fun k hk => (owns_lt h.row k hk).1)

/-- Runs that are told. -/
def ToldR (w : World) (xs : List (Nat × Nat)) (e : Ending) (w' : World) : Prop := ∃ a c, e = .returned (.slice a xs.length c) ∧ Rws w' w.heap.size a xs ∧ Below w.heap.size w w'
set_option maxRecDepth 100000 in
set_option maxHeartbeats 4000000 in
theorem refRuns_any (w : World) (r g : Nat) (L : List Bool) (h : RSp w r g L) :
    Calls Try.prog 21 #[.pointer (some ⟨r, 0, none⟩)] w fun e w' => ToldR w (runsL L) e w' := by
  have hrl := h.lt
  obtain ⟨hl, a, c, h1, h2⟩ := h
  obtain ⟨n, hn⟩ : ∃ n, n = L.length := ⟨_, rfl⟩
  have HB : Hid (∀ W, Below w.heap.size w W → W.cell? ⟨r, 0, none⟩ = some (.slice a n c) ∧ ∀ j (hj : j < L.length), a = some ⟨g, 0, none⟩ ∧ W.cell? ⟨g, j, none⟩ = some (.bool L[j])) := (by
    intro W hb
    refine ⟨by rw [hn]; exact (hb.cell (p := ⟨r, 0, none⟩) hrl).trans (box_cell h1), fun j hj => ?_⟩
    rcases h2 with ⟨h2, _⟩ | ⟨h2, h3⟩
    · rw [h2] at hj; simp at hj
    · exact ⟨h2, (hb.cell (p := ⟨g, j, none⟩) h3.lt).trans (h3.cell hj)⟩)
  clear h1 h2
  rw [← hn] at hl
  have HN : Hid (n = L.length) := hn
  clear hn hrl
  go_enter Try.func21, Try.ntmps21
  go_wp2
  go_loopw [3, 4] (fun v x wr => ∃ j : Nat, x = .int .i64 j ∧ j ≤ n ∧ RO w (runsL (L.take j)) v wr) (fun _ x _ => n - (intOf x).toNat)
  case atStart => exact ⟨0, rfl, Nat.zero_le _, World.ownsRow_nil _ _ _ _, Below.refl _ _⟩
  case round =>
    obtain ⟨j, rfl, hj, hro⟩ := hrel
    obtain ⟨c0, hcc⟩ := HB.out wr hro.old
    have hlen : (runsL (L.take j)).length ≤ 4096 := Nat.le_trans (runs_len _) (by simp; omega)
    obtain ⟨av, cv, hve⟩ := own_slice hro.row
    rw [hve] at hro ⊢
    obtain ⟨R, hR⟩ : ∃ R, R = (runsL (L.take j)).length := ⟨_, rfl⟩
    rw [← hR] at hlen hro ⊢
    have HR : Hid (R = (runsL (L.take j)).length) := hR
    have HRO : Hid (RO w (runsL (L.take j)) (.slice av R cv) wr) := hro
    clear hve hR hro
    by_cases hjn : j < n
    · have hjI : (j : Int) < (n : Int) := by omega
      have hjL : j < L.length := by have := HN.out; omega
      obtain ⟨rfl, cg⟩ := hcc j hjL
      have HTK : Hid (L.take (j + 1) = L.take j ++ [L[j]]) := List.take_succ_eq_append_getElem hjL
      cases hv : L[j] with
      | true =>
        rw [hv] at cg HTK
        clear hcc hv
        go_wp2
        go_roundw
        case rel => exact ⟨j + 1, by go_num, by omega, by rw [HTK.out, runs_true]; exact HRO.out⟩
        case measure => simp [intOf]; omega
      | false =>
        rw [hv] at cg HTK
        clear hv
        have hnew := HRO.out.snoc j 1 (by have := HR.out; omega)
        by_cases hgd : j = 0 ∨ ∃ j', j = j' + 1 ∧ L[j']? = some true
        · -- a new run
          have htr : trl 0 (L.take j) = 0 := by
            rcases hgd with rfl | ⟨j', rfl, e⟩
            · rfl
            · have hj' : j' < L.length := by omega
              rw [List.getElem?_eq_getElem hj'] at e
              rw [trl_take hj', Option.some.inj e]
              rfl
          have hrf : runsL (L.take j ++ [false]) = runsL (L.take j) ++ [(j, 1)] := by
            rcases runs_false (L.take j) with ⟨_, e⟩ | ⟨_, _, _, e, _⟩
            · rw [e, List.length_take, Nat.min_eq_left (by omega)]
            · omega
          obtain ⟨v', w', hr, hro'⟩ := hnew
          have HRO2 : Hid (RO w (runsL (L.take (j + 1))) v' w') := (by rw [HTK.out, hrf]; exact hro')
          clear hro' hrf htr
          go_upto_region 7 with fail
          go_cut [27] from 28 to 40 (fun v wd => v = .bool false ∧ wd = wr)
          case first =>
            rcases hgd with rfl | ⟨j', rfl, e⟩
            · go_wp2
              go_meet
              case rel => exact ⟨rfl, rfl⟩
            · have hj' : j' < L.length := by omega
              have cg' := (hcc j' hj').2
              rw [List.getElem?_eq_getElem hj'] at e
              rw [Option.some.inj e] at cg'
              have hji : ((j' + 1 : Nat) : Int) - 1 = (j' : Int) := by omega
              have hjp : (0 : Int) < ((j' + 1 : Nat) : Int) := by omega
              have hjn2 : (j' : Int) < (n : Int) := by omega
              clear e hcc
              go_wp2
              go_meet
              case rel => exact ⟨rfl, rfl⟩
          case rest =>
            obtain ⟨rfl, rfl⟩ := hcut
            clear hgd hcc
            go_wp2_with (at_builtin; refine wpList_append_run rfl (.tmp 14) (.tmp 17) 45 rfl _ _ rfl rfl _ _ hr ?_)
            go_roundw
            case rel => exact ⟨j + 1, by go_num, by omega, HRO2.out⟩
            case measure => simp [intOf]; omega
        · -- the last run grows
          obtain ⟨j', rfl⟩ : ∃ j', j = j' + 1 := ⟨j - 1, by omega⟩
          have hj' : j' < L.length := by omega
          have hf : L[j'] = false := by
            cases e : L[j'] with
            | false => rfl
            | true => exact (hgd (.inr ⟨j', rfl, by rw [List.getElem?_eq_getElem hj', e]⟩)).elim
          have cg' := (hcc j' hj').2
          rw [hf] at cg'
          have htr : trl 0 (L.take (j' + 1)) = trl 0 (L.take j') + 1 := by rw [trl_take hj', hf]; rfl
          obtain ⟨pre, s, m, _, e1, e2⟩ := (runs_false (L.take (j' + 1))).resolve_left (by rintro ⟨h5, _⟩; omega)
          have hRp : R = pre.length + 1 := by rw [HR.out, e1]; simp
          have hrow := HRO.out.row
          rw [← HR.out, e1] at hrow
          obtain ⟨gr, rfl, hgr⟩ : ∃ gr, av = some ⟨gr, 0, none⟩ ∧ w.heap.size ≤ gr := by
            rcases hrow.2 with ⟨_, h5⟩ | ⟨gr, cap, cur, h5, h6, _⟩
            · omega
            · cases h5; exact ⟨gr, rfl, h6⟩
          have hmb : m ≤ 4096 := by
            have h5 := runs_mem (L := L.take (j' + 1)) (x := (s, m)) (by rw [e1]; simp)
            have h6 : s + m ≤ (L.take (j' + 1)).length := h5.2.1
            rw [List.length_take] at h6
            omega
          obtain ⟨P, hP⟩ : ∃ P, P = pre.length := ⟨_, rfl⟩
          have hcN : wr.cell? ⟨gr, P * 2 + 1, none⟩ = some (.int .i64 (m : Int)) := by
            have h5 := (rcs_get (xs := pre ++ [(s, m)]) (j := pre.length) (by simp)).2
            have h6 := hrow.cells (g := gr) (by rfl) _ _ h5
            rw [Addr.add_lit, Nat.zero_add] at h6
            rw [hP, h6]
            simp
          have hfN : wr.frozen? ⟨gr, P * 2 + 1, none⟩ = false := by
            rcases hrow.2 with ⟨h5, _⟩ | ⟨gr', cap, cur, h5, h6, h7, _⟩
            · cases h5
            · cases h5; exact frozen_blk h7 _
          have HRO2 : Hid (RO w (runsL (L.take (j' + 1 + 1))) (.slice (some ⟨gr, 0, none⟩) R cv) (wr.setCell ⟨gr, P * 2 + 1, none⟩ (.int .i64 ((m + 1 : Nat) : Int)))) := (by
            rw [HTK.out, e2]
            refine ⟨?_, HRO.out.old.setCell (p := ⟨gr, P * 2 + 1, none⟩) hgr _⟩
            have h5 := own_set hrow (P * 2 + 1) (by rw [hRp, hP]; omega) (.int .i64 ((m + 1 : Nat) : Int))
            rw [hP, rcs_last] at h5
            rw [hP, List.length_append, List.length_cons, List.length_nil, Nat.zero_add, ← hRp]
            exact h5)
          have hRI : (R : Int) - 1 = (P : Int) := by omega
          have hPR : (P : Int) < (R : Int) := by omega
          have hm1 : ((m + 1 : Nat) : Int) = (m : Int) + 1 := by omega
          rw [hm1] at HRO2
          have hji : ((j' + 1 : Nat) : Int) - 1 = (j' : Int) := by omega
          have hjp : (0 : Int) < ((j' + 1 : Nat) : Int) := by omega
          have hjn2 : (j' : Int) < (n : Int) := by omega
          have hjb : j' ≤ 4096 := by omega
          clear e1 e2 hrow hP hRp hm1 htr hf hgd hcc hnew hgr
          go_wp2
          go_roundw
          case rel => exact ⟨j' + 1 + 1, by go_num, by omega, HRO2.out⟩
          case measure => simp [intOf]; omega
    · obtain rfl : n = j := by omega
      have hjI : ¬ (n : Int) < (n : Int) := by omega
      clear hcc
      have hta : L.take n = L := by rw [HN.out]; exact List.take_length
      rw [hta] at HRO HR
      have HE : Hid (∃ a' c', (Value.slice av R cv) = .slice a' (runsL L).length c' ∧ Rws wr w.heap.size a' (runsL L)) := (by
        have h3 := HRO.out.row
        exact Rws.ownE h3)
      clear hta
      go_wp2
      go_ret
      obtain ⟨a', c', e1, e2⟩ := HE.out
      exact ⟨a', c', (by rw [e1]; rfl), e2, HRO.out.old⟩

set_option maxRecDepth 100000 in
set_option maxHeartbeats 4000000 in
theorem same_any (w : World) (B B' : Nat) (a b : Option Addr) (c d : Nat) (xs : List (Nat × Nat)) (h1 : Rws w B a xs) (h2 : Rws w B' b xs) (hx4 : xs.length ≤ 4096) :
    Calls Try.prog 19 #[.slice a xs.length c, .slice b xs.length d] w fun e w' => e = .returned (.bool true) ∧ Below w.heap.size w w' := by
  obtain ⟨n, hn⟩ : ∃ n, n = xs.length := ⟨_, rfl⟩
  rw [← hn] at hx4 ⊢
  have HN : Hid (n = xs.length) := hn
  have HR : Hid (Rws w B a xs ∧ Rws w B' b xs) := ⟨h1, h2⟩
  clear hn h1 h2
  go_enter Try.func19, Try.ntmps19
  go_wp2
  go_loopw [5] (fun x wr => ∃ j : Nat, x = .int .i64 j ∧ j ≤ n ∧ Below w.heap.size w wr) (fun x _ => n - (intOf x).toNat)
  case atStart => exact ⟨0, rfl, Nat.zero_le _, Below.refl _ _⟩
  case round =>
    obtain ⟨j, rfl, hj, hbl⟩ := hrel
    by_cases hjn : j < n
    · have hjI : (j : Int) < (n : Int) := by omega
      have hjx : j < xs.length := by have := HN.out; omega
      obtain ⟨g1, rfl, hc1⟩ := (HR.out.1.below hbl).at hjx
      obtain ⟨g2, rfl, hc2⟩ := (HR.out.2.below hbl).at hjx
      obtain ⟨d0, d1⟩ := hc1 j hjx
      obtain ⟨d2, d3⟩ := hc2 j hjx
      obtain ⟨p, hp⟩ : ∃ p, p = xs[j].1 := ⟨_, rfl⟩
      obtain ⟨q, hq⟩ : ∃ q, q = xs[j].2 := ⟨_, rfl⟩
      rw [← hp] at d0 d2
      rw [← hq] at d1 d3
      have HBL : Hid (Below w.heap.size w wr ∧ j < n) := ⟨hbl, hjn⟩
      clear hp hq hc1 hc2 hbl
      go_wp2
      go_quiet (fail)
      go_wp2
      go_roundw
      case rel => exact ⟨j + 1, by go_num, by have := HBL.out.2; omega, HBL.out.1.trans ⟨rfl, rfl, rfl, Nat.le_refl _, fun _ _ => rfl⟩⟩
      case measure => have := HBL.out.2; simp [intOf]; omega
    · obtain rfl : n = j := by omega
      have hjI : ¬ (n : Int) < (n : Int) := by omega
      go_wp2
      go_ret
      exact ⟨rfl, hbl⟩
end Go.Proofs.Ythbgbehmknnohaa

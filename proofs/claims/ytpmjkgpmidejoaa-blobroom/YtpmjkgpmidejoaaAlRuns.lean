/-
  The free runs, by the iterator that tells them.
-/
import Derived.Test.YtpmjkgpmidejoaaAlTurn
import Derived.RangeFuncCalls
import Derived.WalkMore
namespace Go.Proofs.Ytpmjkgpmidejoaa.Al
open Go.RowKit Go.Shelf

attribute [local go_sem] Oper.semAt_some

/-- The free runs of what lies from i on, c free ones standing right ahead of i. -/
def rn (i c : Nat) : List Bool → List (Nat × Nat)
  | [] => if c = 0 then [] else [(i - c, c)]
  | true :: r => (if c = 0 then [] else [(i - c, c)]) ++ rn (i + 1) 0 r
  | false :: r => rn (i + 1) (c + 1) r
/-- All free runs. -/
def runsL (L : List Bool) : List (Nat × Nat) := rn 0 0 L
/-- A run as it is told. -/
def encR (x : Nat × Nat) : Array Value := #[.int .i64 (x.1 : Int), .int .i64 (x.2 : Int)]
theorem cell_lt {w : World} {b o : Nat} {v : Value} (h : w.cell? ⟨b, o, none⟩ = some v) : b < w.heap.size := by
  by_cases hb : b < w.heap.size
  · exact hb
  · simp [World.cell?, Array.getElem?_eq_none (Nat.le_of_not_lt hb)] at h
theorem Kep.cell {K : Nat → Prop} {w w' : World} {b o : Nat} {v : Value} (h : Kep K w w') (hk : K b) (hc : w.cell? ⟨b, o, none⟩ = some v) : w'.cell? ⟨b, o, none⟩ = some v := (World.cell?_of_block (h.keep b (cell_lt hc) hk)).trans hc

theorem runs_any (b : Nat) (w : World) :
    Calls Try.prog 70 #[.pointer (some ⟨b, 0, none⟩)] w fun e w' => e = .returned (.func (.func 85) #[] #[.pointer (some ⟨w.heap.size, 0, none⟩)]) ∧ w' = w.alloc (.cells #[.pointer (some ⟨b, 0, none⟩)] 85) := by
  go_enter Try.func70, Try.ntmps70
  go_wp2
  go_ret
  exact ⟨rfl, by simp⟩

set_option maxRecDepth 100000 in
set_option maxHeartbeats 4000000 in
theorem runs_seq (b bs : Nat) (L : List Bool) (w : World) (h : Spc w b L) (c1 : w.cell? ⟨bs, 0, none⟩ = some (.pointer (some ⟨b, 0, none⟩))) :
    Seq Try.prog 85 #[.pointer (some ⟨bs, 0, none⟩)] encR (fun k => k = b ∨ k = bs) (runsL L) w := by
  intro n l J Jx M X W hR hM hX hJ hJx hY h0
  have hl := h.len
  have hsp : Spc W b L := h.kept (hR.keep b h.lt (.inl rfl))
  have hcb := hR.cell (.inr rfl) c1
  obtain ⟨N, hN⟩ : ∃ N, N = L.length := ⟨_, rfl⟩
  have HB : Hid (∀ M' w', Stp M W M' w' → Spc w' b L ∧ w'.cell? ⟨b, 0, none⟩ = some (.int .i64 (N : Int)) ∧ w'.cell? ⟨bs, 0, none⟩ = some (.pointer (some ⟨b, 0, none⟩))) := (by
    intro M' w' hst
    have hs : Spc w' b L := hsp.kept (hst.kep.keep b hsp.lt (fun h => (hM b h).1 (.inl rfl)))
    exact ⟨hs, by rw [hN]; exact hs.size, hst.kep.cell (fun h => (hM bs h).1 (.inr rfl)) hcb⟩)
  have HN : Hid (N = L.length) := hN
  have hN4 : N ≤ 4096 := by omega
  have hst0 : Stp M W M W := Stp.refl fun k hk => (hM k hk).2
  have HI : Hid (J [] M W ∧ Stp M W M W) := ⟨h0, hst0⟩
  clear hst0 h0 hN hcb hsp hl c1 h hR hM hX hJ hJx
  refine callsIn_of_wp Try.func85 rfl trivial ?_ rfl
  simp only [Try.ntmps85, List.size_toArray, List.length_cons, List.length_nil, Nat.reduceAdd, Nat.reduceSub, Array.replicate_succ, Array.replicate_zero, List.push_toArray, List.append_toArray, List.nil_append, List.cons_append]
  gi_wp2
  refine wpIn_wide.2 (wp_scope_straight ((wpIn_wide (n := n)).1 ?_))
  gi_wp2
  apply wpIn_label
  gi_wp2
  gi_loopw [3] (fun v wr => ∃ (st : Nat) (pre : List (Nat × Nat)) (M' : Nat → Prop), v = .int .i64 st ∧ st ≤ N ∧ pre ++ rn st 0 (L.drop st) = runsL L ∧ J pre M' wr ∧ Stp M W M' wr) (fun v _ => N - (intOf v).toNat)
  case atStart => exact ⟨0, [], M, rfl, Nat.zero_le _, rfl, HI.out.1, HI.out.2⟩
  case round =>
    obtain ⟨st, pre, M', rfl, hst, hpre, hj, hsp⟩ := hrel
    clear HI
    obtain ⟨wo, rfl⟩ : ∃ wo, wo = wr := ⟨_, rfl⟩
    obtain ⟨hspc, c0, cb⟩ := HB.out M' wo hsp
    by_cases hlt : st < N
    · have hltI : (st : Int) < (N : Int) := by omega
      have HP : Hid (pre ++ rn st 0 (L.drop st) = runsL L ∧ J pre M' wo ∧ Stp M W M' wo) := ⟨hpre, hj, hsp⟩
      have HSP : Hid (Spc wo b L) := hspc
      clear hpre hj hsp hspc
      gi_wp2
      gi_loopw [3, 4] (fun v x wr => wr = wo ∧ v = .int .i64 st ∧ ∃ u : Nat, x = .int .i64 u ∧ st ≤ u ∧ u ≤ N ∧ pre ++ rn u (u - st) (L.drop u) = runsL L) (fun _ x _ => N - (intOf x).toNat)
      case atStart => exact ⟨rfl, rfl, st, rfl, Nat.le_refl _, hst, by rw [Nat.sub_self]; exact HP.out.1⟩
      case round =>
        obtain ⟨rfl, rfl, u, rfl, hu1, hu2, hpu⟩ := hrel
        by_cases hlu : u < N
        · have hluI : (u : Int) < (N : Int) := by omega
          have huL : u < L.length := by have := HN.out; omega
          have htk := taken_any wr b L u HSP.out huL
          rw [List.drop_eq_getElem_cons huL] at hpu
          cases hv : L[u] with
          | false =>
            rw [hv] at htk hpu
            have HPU : Hid (pre ++ rn (u + 1) (u - st + 1) (L.drop (u + 1)) = runsL L) := hpu
            clear hv hpu huL
            gi_wp2_with (refine ⟨trivial, fun h => (by cases h), ?_⟩; gi_at_call 83; refine CallsIn.mono (callsIn_wide.2 htk) ?_; rintro e w1 ⟨rfl, rfl⟩)
            go_roundw
            case rel => exact ⟨trivial, rfl, u + 1, by go_num, by omega, by omega, by have := HPU.out; rw [show u + 1 - st = u - st + 1 from by omega]; exact this⟩
            case measure => simp [intOf]; omega
          | true =>
            rw [hv] at htk hpu
            have HPU : Hid (pre ++ ((if u - st = 0 then [] else [(u - (u - st), u - st)]) ++ rn (u + 1) 0 (L.drop (u + 1))) = runsL L) := hpu
            clear hv hpu huL
            by_cases hus : u = st
            · subst hus
              have hg : ¬ (u : Int) < (u : Int) := by omega
              gi_wp2_with (refine ⟨trivial, fun h => (by cases h), ?_⟩; gi_at_call 83; refine CallsIn.mono (callsIn_wide.2 htk) ?_; rintro e w1 ⟨rfl, rfl⟩)
              refine ⟨fun f h => (by cases h), ?_⟩
              gi_wp2
              refine ⟨⟨u + 1, pre, M', by go_num, by omega, ?_, HP.out.2.1, HP.out.2.2⟩, by simp [intOf]; omega⟩
              have := HPU.out
              rw [Nat.sub_self, if_pos rfl, List.nil_append] at this
              exact this
            · obtain ⟨c, hc⟩ : ∃ c, c = u - st := ⟨_, rfl⟩
              have hcI : (u : Int) - (st : Int) = (c : Int) := by omega
              have hg : (st : Int) < (u : Int) := by omega
              have hpu := HPU.out
              rw [← hc, if_neg (by omega), show u - c = st from by omega, ← List.append_assoc] at hpu
              obtain ⟨fn, tmps, assign, body, hy, hr⟩ := hY (n - 1) pre (st, c) M' wr HP.out.2.1 (by rw [← hpu]; exact List.prefix_append _ _)
              dsimp only [encR] at hy
              have HPV : Hid ((pre ++ [(st, c)]) ++ rn (u + 1) 0 (L.drop (u + 1)) = runsL L) := hpu
              clear hpu HPU hc hus
              gi_wp2_with (refine ⟨trivial, fun h => (by cases h), ?_⟩; gi_at_call 83; refine CallsIn.mono (callsIn_wide.2 htk) ?_; rintro e w1 ⟨rfl, rfl⟩)
              refine ⟨fun h => (by cases h), ?_⟩
              refine hr.mono ?_
              rintro e W3 ⟨M3, (⟨hs3, rfl, hj3⟩ | ⟨hs3, rfl, hj3⟩)⟩
              · gi_wp2
                exact ⟨⟨u + 1, pre ++ [(st, c)], M3, by go_num, by omega, HPV.out, hj3, HP.out.2.2.trans hs3⟩, by simp [intOf]; omega⟩
              · gi_wp2
                try rw [Exit.noGoto_ret]
                refine bodyPost_ret (results_none rfl _ _ _) rfl ?_
                exact ⟨⟨_, rfl⟩, M3, .inr ⟨_, by rw [← HPV.out]; exact List.prefix_append _ _, hj3⟩⟩
        · obtain rfl : u = N := by omega
          have hluI : ¬ (u : Int) < (u : Int) := by omega
          obtain ⟨c, hc⟩ : ∃ c, c = u - st := ⟨_, rfl⟩
          have hcI : (u : Int) - (st : Int) = (c : Int) := by omega
          have hL0 : L.drop u = [] := by rw [HN.out]; exact List.drop_length
          rw [hL0, ← hc] at hpu
          rw [show rn u c [] = [(st, c)] from by rw [rn, if_neg (by omega), show u - c = st from by omega]] at hpu
          obtain ⟨fn, tmps, assign, body, hy, hr⟩ := hY (n - 1) pre (st, c) M' wr HP.out.2.1 (by rw [← hpu]; exact List.prefix_refl _)
          dsimp only [encR] at hy
          have HPV : Hid (pre ++ [(st, c)] = runsL L) := hpu
          clear hpu hc hL0 hlu
          gi_wp2
          refine ⟨fun h => (by cases h), ?_⟩
          refine hr.mono ?_
          rintro e W3 ⟨M3, (⟨hs3, rfl, hj3⟩ | ⟨hs3, rfl, hj3⟩)⟩
          · gi_wp2
            try rw [Exit.noGoto_ret]
            refine bodyPost_ret (results_none rfl _ _ _) rfl ?_
            exact ⟨⟨_, rfl⟩, M3, .inl (by rw [← HPV.out]; exact hj3)⟩
          · gi_wp2
            try rw [Exit.noGoto_ret]
            refine bodyPost_ret (results_none rfl _ _ _) rfl ?_
            exact ⟨⟨_, rfl⟩, M3, .inr ⟨_, by rw [← HPV.out]; exact List.prefix_refl _, hj3⟩⟩
    · obtain rfl : st = N := by omega
      have hltI : ¬ (st : Int) < (st : Int) := by omega
      gi_wp2
      go_end0
      rw [HN.out, List.drop_length] at hpre
      rw [show rn L.length 0 [] = [] from rfl, List.append_nil] at hpre
      exact ⟨⟨_, rfl⟩, M', .inl (by rw [← hpre]; exact hj)⟩
end Go.Proofs.Ytpmjkgpmidejoaa.Al

/-
  The law's own shape by its contract.
-/
import Derived.Test.YtpophalhmjchkaaShM
import Derived.Deep.RegionLaw
namespace Go.Proofs.Ytpophalhmjchkaa
open Go.RowKit

attribute [local go_sem] Oper.semAt_some

theorem most_ok {h m Ln : Nat} {t : T} (hw : Whole h t) (hL : (toL h t).length = Ln) (hle : Ln ≤ 2000) (hx : Ln / 4 ^ m < 4 ∨ 39 ≤ m) : h ≤ m := by
  rcases hx with hx | hx
  · by_cases hm : h ≤ m
    · exact hm
    · obtain ⟨g, rfl⟩ : ∃ g, h = g + 1 := ⟨h - 1, by omega⟩
      have h1 := whole_pow hw
      have h2 : 4 ^ (m + 1) ≤ 4 ^ (g + 1) := Nat.pow_le_pow_right (by decide) (by omega)
      have h3 : Ln < 4 * 4 ^ m := (Nat.div_lt_iff_lt_mul (Nat.pow_pos (by decide))).1 hx
      rw [Nat.pow_succ] at h2
      omega
  · have := whole_height hw (by omega)
    omega
theorem most_next {Ln k q : Nat} (hk : 1 ≤ k) (hq : q = Ln / 4 ^ (k - 1)) : q / 4 = Ln / 4 ^ (k + 1 - 1) := by
  obtain ⟨j, rfl⟩ : ∃ j, k = j + 1 := ⟨k - 1, by omega⟩
  rw [hq, Nat.div_div_eq_div_mul]
  simp only [Nat.add_sub_cancel]
  rw [Nat.pow_succ]
theorem flat_take {kss : Kss} {j : Nat} (hj : j < kss.length) : (kss.take (j + 1)).flatten = (kss.take j).flatten ++ kss[j] := by
  rw [List.take_succ_eq_append_getElem hj, List.flatten_append]
  simp
theorem KeyRow.slc {w : World} {B : Nat} {v : Value} {ks : List ByteArray} (h : KeyRow w B v ks) : ∃ a c, v = .slice a ks.length c ∧ Sl w 1 a ks.length c (scs ks) := Sl.own h (by simp [scs]; intro a _; rfl)

theorem step_append_sl {P : Program} {w : World} {ops : Array Oper} {o : Oper} {a : Act} {K : Act → World → Prop} {Q : Exit → Act → World → Prop} {E : Prop} (hgd : o.guard = none) (s x : Operand) (t : TypeId)
    (ho : o.op = .call { callee := .builtin .append, args := #[s, x], argTypes := #[t, t] }) (base : Nat) (e : TypeId) (i : TypeInfo) (z : Value) (size bytes : Nat) (ht : P.underlying t = some (.slice e)) (hi : P.info? e = some i) (hz : i.zero = some z)
    (hsize : i.size = size) (hby : i.bytes = bytes) (hzs : z.cells.size = size) (hsz : 0 < size) (hb32 : bytes ≤ 32)
    (v : Value) (n : Nat) (xs : List Value) (hs : a.eval s = v) (hown : w.ownsRow base e size v n xs) (xa : Option Addr) (m c : Nat) (ys : List Value) (hx : a.eval x = .slice xa m c) (hy : Sl w size xa m c ys) (hn : n + m ≤ 1000000000) (hbase : base ≤ w.heap.size)
    (h : ∀ v' w', w'.ownsRow base e size v' (n + m) (xs ++ ys) → w.grownBy w' v.ownBlock → K (a.put o.dst v') w') :
    if Region.wanted o (yielded ops a.tmps) = true then Oper.wp P o a w K Q else E := by
  have hw : Region.wanted o (yielded ops a.tmps) = true := by simp [Region.wanted, hgd]
  rw [if_pos hw]
  cases xa with
  | none =>
    have hc := hy.nil rfl
    have hm := hy.cap
    obtain rfl : m = 0 := by omega
    subst hc
    have hyl := hy.len
    simp only [Nat.zero_mul, List.length_eq_zero_iff] at hyl
    subst hyl
    have hrun := run_append_owned_none (P := P) (w := w) base t o.type e i size ht hi v n xs hown
    have hh := h v w (by rw [List.append_nil]; exact hown) (World.grownBy.refl _ _)
    unfold Oper.wp
    simp [execOp, ho, resolve, invoke, builtin, hs, hx, hrun, Result.andThen]
    exact hh
  | some ad =>
    have hbb : (n + m) * bytes ≤ 140737488355328 := by
      have := Nat.mul_le_mul hn hb32
      omega
    refine wp_append_own w s x t ho base e i z size bytes ht hi hz hsize hby hzs hsz v n xs hs hown ad m c ys hx hy.len ?_ hy.one (by unfold maxLen; omega) hbb hbase fun v' w' h2 h3 _ => h v' w' h2 h3
    intro j u hj
    obtain ⟨hj', rfl⟩ := List.getElem?_eq_some_iff.1 hj
    obtain ⟨b, off, he, _, hcs⟩ := hy.at hj'
    simp only [Option.some.injEq] at he
    subst he
    rw [Addr.add_lit]
    exact hcs j hj'
/-- As Q, but no panic. -/
def npS (Q : Exit → Act → World → Prop) : Exit → Act → World → Prop
  | .panic _, _, _ => False
  | .normal, a, w => Q .normal a w
  | .ret, a, w => Q .ret a w
  | .exit i, a, w => Q (.exit i) a w
  | .goto t, a, w => Q (.goto t) a w
  | .outgrown, a, w => Q .outgrown a w
theorem npS_up {Q : Exit → Act → World → Prop} : ∀ e a w, npS Q e a w → Q e a w
  | .panic _, _, _, h => h.elim
  | .normal, _, _, h => h
  | .ret, _, _, h => h
  | .exit _, _, _, h => h
  | .goto _, _, _, h => h
  | .outgrown, _, _, h => h
/-- What shape holds while it gathers the leaves' keys. -/
structure HI (w0 : World) (v : Value) (ks : List ByteArray) (W : World) : Prop where
  i : W.heap[w0.heap.size]? = some (.cells #[.int .i64 0] 3 (0, 0))
  k : W.heap[w0.heap.size + 1]? = some (.cells #[v] 23 (0, 0))
  own : W.ownsRow (w0.heap.size + 2) 9 1 v ks.length (scs ks)
  old : Below w0.heap.size w0 W
theorem HI.start (w0 : World) : HI w0 (.slice none 0 0) [] ((w0.alloc (.cells #[.int .i64 0] 3)).alloc (.cells #[.slice none 0 0] 23)) := by
  refine ⟨((Kep.alloc (fun _ => True) _ _).keep _ (by simp) trivial).trans (heap_alloc_new w0 _), ?_, World.ownsRow_nil _ _ _ _, ((Below.refl _ w0).alloc (Nat.le_refl _) _).alloc (by simp) _⟩
  have := heap_alloc_new (w0.alloc (.cells #[.int .i64 0] 3)) (.cells #[.slice none 0 0] 23)
  rwa [World.size_alloc] at this
theorem HI.snoc {w0 W W5 : World} {v v2 : Value} {ks ks2 : List ByteArray} (h : HI w0 v ks W) (ho : W5.ownsRow (w0.heap.size + 2) 9 1 v2 (ks.length + ks2.length) (scs ks ++ scs ks2)) (hg : W.drew.grownBy W5 v.ownBlock) : W5.heap[w0.heap.size + 1]? = some (.cells #[v] 23 (0, 0)) ∧ HI w0 v2 (ks ++ ks2) (W5.setCell ⟨w0.heap.size + 1, 0, none⟩ v2) := by
  have hz : w0.heap.size + 1 < W.heap.size := (Array.getElem?_eq_some_iff.1 h.k).1
  have hb : Below (w0.heap.size + 2) W W5 := ((Below.refl _ W).drew).grown hg (by show _ ≤ W.heap.size; omega) (fun g hg => (owns_lt h.own g hg).1)
  have hk5 : W5.heap[w0.heap.size + 1]? = some (.cells #[v] 23 (0, 0)) := (hb.block _ (by omega)).trans h.k
  refine ⟨hk5, (box_other ((hb.block _ (by omega)).trans h.i) (by omega) _ : (W5.setCell ⟨w0.heap.size + 1, 0, none⟩ v2).heap[w0.heap.size]? = _), (box_set hk5 v2 : (W5.setCell ⟨w0.heap.size + 1, 0, none⟩ v2).heap[w0.heap.size + 1]? = _), ?_, ?_⟩
  · rw [List.length_append, scs_app]
    obtain ⟨h1, h2 | ⟨g, cap, cur, e1, e2, e3, e4⟩⟩ := ho
    · exact ⟨h1, .inl h2⟩
    · exact ⟨h1, .inr ⟨g, cap, cur, e1, e2, (box_other e3 (by omega) _ : (W5.setCell ⟨w0.heap.size + 1, 0, none⟩ v2).heap[g]? = _), e4⟩⟩
  · have h1 : Below w0.heap.size w0 W5 := h.old.trans (hb.mono (by omega))
    exact h1.setCell (p := ⟨w0.heap.size + 1, 0, none⟩) (by show _ ≤ w0.heap.size + 1; omega) _

set_option maxRecDepth 100000 in
set_option maxHeartbeats 8000000 in
theorem shape_any (b h : Nat) (t : T) (L : List KV) (w : World) (hT : Tr w b h t) (hL : toL h t = L) (hn : L.length ≤ 2000) :
    Calls Try.prog 17 #[.pointer (some ⟨b, 0, none⟩)] w fun e w' => e = .returned (.bool true) ∧ Below w.heap.size w w' := by
  obtain ⟨_, _, _, hw⟩ := id hT
  have hl2 : (toL h t).length ≤ 2000 := by rw [hL]; exact hn
  obtain ⟨ls, hls⟩ : ∃ ls, ls = levelsL h [t] := ⟨_, rfl⟩
  have hsml : Sml ls := by rw [hls]; exact whole_sml hw hl2 (by have := whole_height hw hl2; omega)
  have hlen : ls.length = h + 1 := by rw [hls]; exact levels_len h [t]
  have HLP : Hid (∀ d, d < ls.length → LP ls d) := (by intro d hd; rw [hls]; exact whole_lp hw (by omega))
  have HLK : Hid (∀ hq : h < ls.length, ls[h].flatten = keysP L) := (by subst hls; intro hq; rw [leaves_keys hw hq, hL])
  have HL0 : Hid (∀ hq : 0 < ls.length, ls[0].length = 1) := (by subst hls; intro hq; rw [levels_get]; rfl)
  have HMO : Hid (∀ m, (L.length / 4 ^ m < 4 ∨ 39 ≤ m) → h ≤ m) := (by intro m hm; exact most_ok hw (by rw [hL]) hn hm)
  have hlv : ∀ w1, Below w.heap.size w w1 → Calls Try.prog 20 #[.pointer (some ⟨b, 0, none⟩)] w1 fun e w' => ∃ u, e = .returned u ∧ Lvs w' w1.heap.size u ls ∧ Below w1.heap.size w1 w' := by
    intro w1 hb
    rw [hls]
    exact levels_any b h t w1 (hT.below hb) (whole_small hw hl2) (by rw [levels_len]; have := whole_height hw hl2; omega)
  have hle : ∀ w1, Below w.heap.size w w1 → Calls Try.prog 19 #[.pointer (some ⟨b, 0, none⟩)] w1 fun e w' => e = .returned (.int .i64 (L.length : Int)) ∧ w1 = w' := by
    intro w1 hb
    have := len_any b h t w1 (hT.below hb)
    rwa [hL] at this
  obtain ⟨Ln, hLn⟩ : ∃ Ln, Ln = L.length := ⟨_, rfl⟩
  rw [← hLn] at hle hn HMO
  obtain ⟨N, hN⟩ : ∃ N, N = ls.length := ⟨_, rfl⟩
  have HTL : Hid (toL h t = L ∧ Ln = L.length ∧ N = ls.length ∧ ls.length = h + 1) := ⟨hL, hLn, hN, hlen⟩
  have HSM : Hid (Sml ls) := hsml
  have HNH : Hid (N = h + 1) := (show N = h + 1 by omega)
  have hN0 : 1 ≤ N := by omega
  have hN5 : N ≤ 1000 := by rw [hN]; exact hsml.1
  clear hw hl2 hls hsml hlen hLn hN hL
  refine (callsIn_wide (n := 0)).1 ?_
  refine callsIn_of_wp_marks Try.func17 rfl trivial ?_ rfl
  simp only [Try.ntmps17, List.size_toArray, List.length_cons, List.length_nil, Nat.reduceAdd, Nat.reduceSub, Array.replicate_succ, Array.replicate_zero, List.push_toArray, List.append_toArray, List.nil_append, List.cons_append]
  refine wpIn_wide.2 (wp_mono ?_ npS_up)
  have hb1 : Below w.heap.size w (w.alloc (.cells #[.bool false] 4)) := (Below.refl _ w).alloc (Nat.le_refl _) _
  have hlv1 := hlv _ hb1
  have HLV : Hid (Calls Try.prog 20 #[.pointer (some ⟨b, 0, none⟩)] (w.alloc (.cells #[.bool false] 4)) fun e w2 => ∃ g uc a0 c0, e = .returned (.slice (some ⟨g, 0, none⟩) N uc) ∧ w2.cell? ⟨g, 0, none⟩ = some (.slice a0 1 c0) ∧ Lvs w2 (w.heap.size + 1) (.slice (some ⟨g, 0, none⟩) N uc) ls ∧ w2.heap[w.heap.size]? = some (.cells #[.bool false] 4 (0, 0)) ∧ Below w.heap.size w w2) := (by
    show Calls _ _ _ _ _
    refine Calls.mono hlv1 ?_
    rintro e w2 ⟨u, rfl, h2, h3⟩
    have h0 : 0 < ls.length := by have := HTL.out; omega
    obtain ⟨g, uc, v, e1, e2, e3⟩ := h2.at h0
    obtain ⟨a0, c0, rfl⟩ := e3.sl
    rw [HL0.out h0] at e2
    rw [← HTL.out.2.2.1] at e1
    subst e1
    refine ⟨g, uc, a0, c0, rfl, e2, by simpa using h2, (h3.block _ (by simp)).trans (heap_alloc_new w _), hb1.trans (h3.mono (by simp))⟩)
  have hN1 : ¬ (N : Int) < 1 := by omega
  clear hlv1 hb1 hlv HL0
  go_wp2_with (first
    | (go_at_call 20; refine Calls.mono HLV.out ?_; rintro e w2 ⟨g, uc, a0, c0, rfl, k0, hv, hr2, hb2⟩; have hle2 := hle w2 hb2; clear hle)
    | (go_at_call 19; refine Calls.mono hle2 ?_; rintro e w3 ⟨rfl, rfl⟩))
  have HB2 : Hid (Lvs w2 (w.heap.size + 1) (.slice (some ⟨g, 0, none⟩) N uc) ls ∧ w2.heap[w.heap.size]? = some (.cells #[.bool false] 4 (0, 0)) ∧ Below w.heap.size w w2) := ⟨hv, hr2, hb2⟩
  clear hv hr2 hb2 hle2 HLV k0 hN1
  go_loopw [4, 5] (fun mv nv wr => ∃ k q : Nat, mv = .int .i64 (k : Int) ∧ nv = .int .i64 (q : Int) ∧ 1 ≤ k ∧ k ≤ 40 ∧ q ≤ 2000 ∧ q = Ln / 4 ^ (k - 1) ∧ wr = w2) (fun _ nv _ => (intOf nv).toNat)
  case atStart => exact ⟨1, Ln, rfl, rfl, Nat.le_refl _, by decide, hn, by simp, rfl⟩
  case round =>
    obtain ⟨k, q, rfl, rfl, hk1, hk2, hq2, hq, rfl⟩ := hrel
    by_cases hc : 4 ≤ q ∧ k < 40
    · have c1 : (4 : Int) ≤ (q : Int) := by omega
      have c2 : (k : Int) < 40 := by omega
      have HQ : Hid (q / 4 = Ln / 4 ^ (k + 1 - 1)) := most_next hk1 hq
      clear hq
      go_wp2
      go_roundw
      case rel => exact ⟨k + 1, q / 4, by go_num, by go_num, by omega, by omega, by omega, HQ.out, trivial⟩
      case measure => simp [intOf]; omega
    · have HH : Hid (h ≤ k - 1) := (by
        refine HMO.out (k - 1) ?_
        rw [← hq]
        omega)
      clear hq
      go_upto_region 6 with fail
      go_cut [31] from 26 to 31 (fun s w' => s = .bool false ∧ w' = wr)
      case first =>
        by_cases hc1 : 4 ≤ q
        · have c1 : (4 : Int) ≤ (q : Int) := by omega
          have c2 : ¬ (k : Int) < 40 := by omega
          go_wp2
          go_meet
          case rel => exact ⟨rfl, rfl⟩
        · have c1 : ¬ (4 : Int) ≤ (q : Int) := by omega
          go_wp2
          go_meet
          case rel => exact ⟨rfl, rfl⟩
      case rest =>
        obtain ⟨rfl, rfl⟩ := hcut
        have hNk : ¬ (k : Int) < (N : Int) := by have := HH.out; have := HNH.out; omega
        go_wp2
        have HB3 : Hid (Below w.heap.size w wc) := HB2.out.2.2
        go_loopw [6] (fun dv wr => ∃ d : Nat, dv = .int .i64 (d : Int) ∧ d ≤ N ∧ Lvs wr (w.heap.size + 1) (.slice (some ⟨g, 0, none⟩) N uc) ls ∧ wr.heap[w.heap.size]? = some (.cells #[.bool false] 4 (0, 0)) ∧ Below w.heap.size w wr) (fun dv _ => N - (intOf dv).toNat)
        case atStart => exact ⟨0, rfl, Nat.zero_le _, HB2.out⟩
        case round =>
          clear HB2 HB3
          obtain ⟨d, rfl, hd, hv, hr, hb⟩ := hrel
          by_cases hdN : d < N
          · have hdi : (d : Int) < (N : Int) := by omega
            have hlvl := level_any _ ls d _ wr hv HSM.out (HLP.out d (by have := HTL.out; omega))
            have HNX : Hid (∀ w5, Below wr.heap.size wr w5 → Lvs w5 (w.heap.size + 1) (.slice (some ⟨g, 0, none⟩) N uc) ls ∧ w5.heap[w.heap.size]? = some (.cells #[.bool false] 4 (0, 0)) ∧ Below w.heap.size w w5) := fun w5 h5 => ⟨hv.below h5, (h5.block _ (Array.getElem?_eq_some_iff.1 hr).1).trans hr, hb.trans (h5.mono hb.size)⟩
            clear hv hr hb
            go_wp2_with (go_at_call 29; refine Calls.mono hlvl ?_; rintro e w5 ⟨rfl, hb5⟩)
            go_roundw
            case rel => exact ⟨d + 1, by go_num, by omega, HNX.out w5 hb5⟩
            case measure => simp [intOf]; omega
          · have hdi : ¬ (d : Int) < (N : Int) := by omega
            obtain ⟨g1, uc1, v, e1, e2, e3⟩ := hv.at (d := N - 1) (by have := HTL.out; omega)
            simp only [Value.slice.injEq, Option.some.injEq, Addr.mk.injEq, and_true] at e1
            obtain ⟨rfl, -, -⟩ := e1
            obtain ⟨la, lc, rfl⟩ := e3.sl
            obtain ⟨kss, hkss⟩ : ∃ kss, kss = ls[N - 1]'(by have := HTL.out; omega) := ⟨_, rfl⟩
            rw [← hkss] at e2 e3
            have HF : Hid (kss.flatten = keysP L ∧ kss.length ≤ 5000 ∧ ∀ k ∈ kss, k.length ≤ 100) := (by
              have h1 := HTL.out
              have h2 := HNH.out
              refine ⟨?_, ?_⟩
              · rw [hkss]
                simp only [h2, Nat.add_sub_cancel]
                exact HLK.out (by omega)
              · rw [hkss]
                exact HSM.out.2 _ (List.getElem_mem _))
            obtain ⟨nn, hnn⟩ : ∃ nn, nn = kss.length := ⟨_, rfl⟩
            rw [← hnn] at e2 e3
            obtain ⟨P, hP⟩ : ∃ P, P = N - 1 := ⟨_, rfl⟩
            rw [← hP] at e2
            have hPi : IntKind.i64.wrap ((N : Int) - 1) = (P : Int) := by rw [IntKind.wrap_i64]; omega
            have hPN : P < N := by omega
            have hPNi : (P : Int) < (N : Int) := by omega
            have HR : Hid (LvRow wr (w.heap.size + 1) (.slice la nn lc) kss ∧ nn = kss.length ∧ wr.heap[w.heap.size]? = some (.cells #[.bool false] 4 (0, 0)) ∧ Below w.heap.size w wr) := ⟨e3, hnn, hr, hb⟩
            clear hv hr hb e3 hkss hnn hP
            obtain ⟨w0, rfl⟩ : ∃ w0, w0 = wr := ⟨_, rfl⟩
            obtain ⟨i9, hi9, hz0, hz1, hz2⟩ := info_parts info9
            have HI9 : Hid (Try.prog.info? 9 = some i9 ∧ i9.zero = some (.string ⟨#[]⟩) ∧ i9.size = 1 ∧ i9.bytes = 16) := ⟨hi9, hz0, hz1, hz2⟩
            clear hi9 hz0 hz1 hz2
            have hnn5 : nn ≤ 5000 := by have := HR.out.2.1; have := HF.out.2.1; omega
            go_wp2
            go_loopw [10] (fun iv wr => ∃ (j : Nat) (v : Value), iv = .int .i64 (j : Int) ∧ j ≤ nn ∧ HI w0 v (kss.take j).flatten wr) (fun iv _ => nn - (intOf iv).toNat)
            case atStart => exact ⟨0, _, rfl, Nat.zero_le _, HI.start w0⟩
            case round =>
              obtain ⟨j, v, rfl, hj, hi⟩ := hrel
              by_cases hjn : j < nn
              · have hjk : j < kss.length := by have := HR.out.2.1; omega
                obtain ⟨gl, gc, x, ex, k1s, k2⟩ := HR.out.1.at hjk
                have k1 : wr.cell? ⟨gl, j, none⟩ = some x := (hi.old.cell (p := ⟨gl, j, none⟩) (cell_lt k1s)).trans k1s
                replace k2 := k2.below hi.old
                simp only [Value.slice.injEq] at ex
                obtain ⟨rfl, -, -⟩ := ex
                obtain ⟨xa, xc, rfl, hsl⟩ := k2.slc
                have hji : (j : Int) < (nn : Int) := by omega
                have hfl := flat_take hjk
                obtain ⟨ks, hks⟩ : ∃ ks, ks = (kss.take j).flatten := ⟨_, rfl⟩
                obtain ⟨k5, hk5⟩ : ∃ k5, k5 = kss[j] := ⟨_, rfl⟩
                rw [← hks] at hi hfl
                rw [← hk5] at k1 k1s k2 hsl hfl
                have hlk : ks.length + k5.length ≤ 1000000000 := by
                  have h1 : ks ++ k5 <+: keysP L := by
                    rw [← hfl, ← HF.out.1]
                    conv => rhs; rw [← List.take_append_drop (j + 1) kss, List.flatten_append]
                    exact List.prefix_append _ _
                  have h2 := h1.length_le
                  rw [List.length_append] at h2
                  have h3 : (keysP L).length = L.length := by simp [keysP]
                  have := HTL.out.2.1
                  omega
                have hgs : gl < w0.heap.size := cell_lt k1s
                have hne1 : ¬ gl = w0.heap.size + 1 := by omega
                have hne2 : ¬ w0.heap.size + 1 = gl := by omega
                clear hgs
                have hDr := (Below.refl wr.heap.size wr).drew
                have hown := own_below hi.own hDr
                have hslD := hsl.below hDr
                have hszD : w0.heap.size + 2 ≤ wr.drew.heap.size := by have := (Array.getElem?_eq_some_iff.1 hi.k).1; show _ ≤ wr.heap.size; omega
                have HNX : Hid (∀ v2 W5, W5.ownsRow (w0.heap.size + 2) 9 1 v2 (ks.length + k5.length) (scs ks ++ scs k5) → wr.drew.grownBy W5 v.ownBlock → W5.heap[w0.heap.size + 1]? = some (.cells #[v] 23 (0, 0)) ∧ HI w0 v2 (kss.take (j + 1)).flatten (W5.setCell ⟨w0.heap.size + 1, 0, none⟩ v2) ∧ W5.cell? ⟨gl, j, none⟩ = some (.slice xa k5.length xc)) := (by
                  intro v2 W5 h1 h2
                  rw [hfl]
                  have hgl := cell_lt k1s
                  have h3 := hi.snoc h1 h2
                  refine ⟨h3.1, h3.2, ?_⟩
                  have hb : Below w0.heap.size w0 W5 := hi.old.drew.trans ((((Below.refl (w0.heap.size + 2) wr.drew).grown h2 hszD (fun g hg => (owns_lt hi.own g hg).1))).mono (by omega))
                  exact (hb.cell (p := ⟨gl, j, none⟩) hgl).trans k1s)
                have d0 : wr.drew.cell? ⟨w0.heap.size + 1, 0, none⟩ = some v := box_cell hi.k
                have k1D : wr.drew.cell? ⟨gl, j, none⟩ = some (.slice xa k5.length xc) := k1
                clear hi hfl hks hk5 hsl k2 hjk hDr k1s
                obtain ⟨m5, hm5⟩ : ∃ m5, m5 = k5.length := ⟨_, rfl⟩
                rw [← hm5] at k1 k1D hlk hslD HNX
                clear hm5
                go_wp2
                go_region_law
                  (first
                    | (refine step_append_sl rfl (.tmp 62) (.tmp 66) 23 rfl (w0.heap.size + 2) 9 i9 (.string ⟨#[]⟩) 1 16 Try.underlying23 HI9.out.1 HI9.out.2.1 HI9.out.2.2.1 HI9.out.2.2.2 rfl (by decide) (by decide) _ ks.length (scs ks) rfl hown xa m5 xc (scs k5) rfl hslD hlk hszD ?_; intro v2 w5 ho5 hg5; obtain ⟨a2, c2, rfl⟩ := own_slice ho5; have hN := HNX.out _ w5 ho5 hg5; have f5 := box_free hN.1; have s0 := box_cell hN.1; have s1 := hN.2.2))
                all_goals
                  go_wp2
                  go_roundw
                  case rel => exact ⟨j + 1, _, by go_num, by omega, hN.2.1⟩
                  case measure => simp [intOf]; omega
              · have hji : ¬ (j : Int) < (nn : Int) := by omega
                obtain rfl : j = nn := by omega
                have hks : (kss.take j).flatten = keysP L := by rw [HR.out.2.1, List.take_length]; exact HF.out.1
                rw [hks] at hi
                obtain ⟨va, vc, rfl⟩ := own_slice hi.own
                have HKL : Hid ((keysP L).length = Ln) := (by show _ = _; rw [HTL.out.2.1]; simp [keysP])
                have hown := hi.own
                have HIw : Hid (HI w0 (.slice va (keysP L).length vc) (keysP L) wr) := hi
                clear hi hown
                rw [HKL.out] at HIw
                go_wp2_with (go_at_call 18; refine Calls.mono (from_any b _ _) ?_; rintro e w5 ⟨rfl, rfl⟩)
                have hbW : Below w.heap.size w wr := HR.out.2.2.2.trans (HIw.out.old.mono HR.out.2.2.2.size)
                have hrW : wr.heap[w.heap.size]? = some (.cells #[.bool false] 4 (0, 0)) := (HIw.out.old.block _ (Array.getElem?_eq_some_iff.1 HR.out.2.2.1).1).trans HR.out.2.2.1
                have hw0 : w.heap.size < w0.heap.size := (Array.getElem?_eq_some_iff.1 HR.out.2.2.1).1
                have hwz : w0.heap.size + 1 < wr.heap.size := (Array.getElem?_eq_some_iff.1 HIw.out.k).1
                have hsq := made_seq ⟨#[]⟩ hT hbW
                rw [from_all, HTL.out.1] at hsq
                have HC : Hid (∀ pre x W', pre ++ [x] <+: L → Kep (fun q => q ≠ w0.heap.size ∧ q < wr.heap.size) wr W' → pre.length < Ln ∧ ∃ gk, va = some ⟨gk, 0, none⟩ ∧ W'.cell? ⟨gk, pre.length, none⟩ = some (.string x.1)) := (by
                  intro pre x W' hp hk
                  obtain ⟨h2, rfl⟩ := pre_get hp
                  have hown := HIw.out.own
                  obtain ⟨gk, cc, e, hc2⟩ := own_at hown (j := pre.length) (by simp [scs, keysP]; exact h2)
                  simp only [Value.slice.injEq] at e
                  refine ⟨by have := HTL.out.2.1; omega, gk, e.1, ?_⟩
                  have hlt := owns_lt hown gk (by rw [e.1]; rfl)
                  have h5 := hk.cell (b := gk) (show gk ≠ w0.heap.size ∧ gk < wr.heap.size from ⟨by omega, hlt.2⟩) hc2
                  rw [h5]
                  simp [scs, keysP])
                have HB : Hid (∀ W', Kep (fun q => q ≠ w0.heap.size ∧ q < wr.heap.size) wr W' → W'.cell? ⟨w0.heap.size + 1, 0, none⟩ = some (.slice va Ln vc) ∧ W'.heap[w.heap.size]? = some (.cells #[.bool false] 4 (0, 0)) ∧ Below w.heap.size w W') := (by
                  intro W' hk
                  refine ⟨hk.cell (b := w0.heap.size + 1) (show _ ∧ _ from ⟨by show w0.heap.size + 1 ≠ _; omega, hwz⟩) (box_cell HIw.out.k), (hk.keep _ (by omega) ⟨by omega, by omega⟩).trans hrW, hbW.trans ((hk.mono (K' := fun q => q < w.heap.size) fun q _ h3 => ⟨by omega, by omega⟩).below hbW.size)⟩)
                have hi0 := HIw.out.i
                clear hrW
                have hdec : decide ((N : Int) < 1) = false := by simp; omega
                rw [hdec]
                rename_i K hK
                refine wpIn_wide.1 (range_law (n := 0) (gf := 30) (lb := #[.pointer (some ⟨wr.heap.size, 0, none⟩), .pointer (some ⟨wr.heap.size + 1, 0, none⟩)]) rfl (enters_of Try.func30 (by kernel_rfl) rfl) hsq (made_lt hbW) (fun _ => rfl)
                  (fun pre M W' => M = (fun q => q = w0.heap.size) ∧ W'.heap[w0.heap.size]? = some (.cells #[.int .i64 (pre.length : Int)] 3 (0, 0)) ∧ Kep (fun q => q ≠ w0.heap.size ∧ q < wr.heap.size) wr W') (fun _ _ _ _ => False)
                  (fun pre M W2 W3 h2 hk => ⟨h2.1, (hk.keep _ (Array.getElem?_eq_some_iff.1 h2.2.1).1 (.inl (by simp; omega))).trans h2.2.1, h2.2.2.trans (hk.mono fun q _ h3 => .inl (by have := h3.2; simp; omega))⟩) (fun _ _ _ _ _ h2 _ => h2)
                  (fun q => q = w0.heap.size) ?own ⟨rfl, ((made_kep (fun _ => True) wr _ _).keep _ (by omega) trivial).trans hi0, made_kep _ wr _ _⟩
                  (fun x => { tmps := #[Value.pointer (some ⟨b, 0, none⟩), undef, Value.pointer (some ⟨w.heap.size, 0, none⟩), Value.slice (some ⟨g, 0, none⟩) N uc, Value.int IntKind.i64 (k : Int), Value.int IntKind.i64 (q : Int), Value.int IntKind.i64 (d : Int), Value.slice la j lc, Value.pointer (some ⟨w0.heap.size, 0, none⟩), Value.pointer (some ⟨w0.heap.size + 1, 0, none⟩), Value.int IntKind.i64 (j : Int), .string x.1, Value.pointer (some ⟨b, 0, none⟩), Value.slice (some ⟨g, 0, none⟩) N uc, Value.slice (some ⟨g, 0, none⟩) N uc, Value.int IntKind.i64 (N : Int), Value.bool false, Value.bool false, Value.slice (some ⟨g, 0, none⟩) N uc, Value.pointer (some ⟨g, 0, none⟩), Value.slice a0 1 c0, Value.int IntKind.i64 1, Value.bool false, Value.bool false, Value.pointer (some ⟨b, 0, none⟩), Value.int IntKind.i64 (Ln : Int), u26, u27, u28, u29, u30, Value.bool false, u32, u33, u34, u35, Value.slice (some ⟨g, 0, none⟩) N uc, Value.int IntKind.i64 (N : Int), Value.int IntKind.i64 (k : Int), Value.bool false, Value.int IntKind.i64 (d : Int), Value.slice (some ⟨g, 0, none⟩) N uc, Value.int IntKind.i64 (N : Int), Value.bool false, u44, u45, u46, u47, u48, u49, Value.slice (some ⟨g, 0, none⟩) N uc, Value.slice (some ⟨g, 0, none⟩) N uc, Value.int IntKind.i64 (N : Int), Value.int IntKind.i64 (P : Int), Value.pointer (some ⟨g, P, none⟩), Value.slice la j lc, Value.int IntKind.i64 (j : Int), Value.slice la j lc, Value.int IntKind.i64 (j : Int), Value.bool false, u60, u61, u62, u63, u64, u65, u66, u67, Value.pointer (some ⟨b, 0, none⟩), Value.func (Fn.func 30) #[] #[Value.pointer (some ⟨wr.heap.size, 0, none⟩), Value.pointer (some ⟨wr.heap.size + 1, 0, none⟩)], .string x.1, .string x.2, undef, undef, undef, undef, undef, undef, undef, undef, undef, undef, undef, undef, undef, undef, undef, undef, undef, undef], defers := [] }) ?assign ?body ?done ?stop)
                case own =>
                  rintro q rfl
                  refine ⟨?_, by simp; omega⟩
                  rintro (h2 | h2 | h2) <;> omega
                case assign =>
                  intro m l' x W2 K hK
                  dsimp only [encP]
                  gi_wp2
                  exact hK
                case body =>
                  rintro m l' pre ⟨x, y⟩ M1 W2 ⟨rfl, h2, h3⟩ hpre
                  obtain ⟨hlt, gk, rfl, d0⟩ := HC.out pre (x, y) W2 hpre h3
                  obtain ⟨d1, -, -⟩ := HB.out W2 h3
                  have i1 := box_cell h2
                  have i2 := box_free h2
                  have hltI : ((pre.length : Nat) : Int) < (Ln : Int) := by omega
                  have H2 : Hid (W2.heap[w0.heap.size]? = some (.cells #[.int .i64 (pre.length : Int)] 3 (0, 0)) ∧ Kep (fun q => q ≠ w0.heap.size ∧ q < wr.heap.size) wr W2) := ⟨h2, h3⟩
                  dsimp only at d0
                  clear h2 h3 hpre
                  gi_wp2
                  refine ⟨_, Stp.set (by rintro q rfl; exact (Array.getElem?_eq_some_iff.1 H2.out.1).1) ⟨w0.heap.size, 0, none⟩ _ rfl, rfl, ?_, H2.out.2.trans (Kep.set W2 _ (fun h => h.1 rfl))⟩
                  rw [box_set H2.out.1, List.length_append]
                  simp
                case done =>
                  rintro D M1 W2 hD hMD ⟨rfl, h2, h3⟩ hdef
                  rw [← HTL.out.2.1] at h2
                  have i1 := box_cell h2
                  obtain ⟨d1, d2, d3⟩ := HB.out W2 h3
                  have i4 := box_cell d2
                  have i5 := box_free d2
                  have HD : Hid (W2.heap[w.heap.size]? = some (.cells #[.bool false] 4 (0, 0)) ∧ Below w.heap.size w W2 ∧ W2.heap[D]? = some (.deferred (some []))) := ⟨d2, d3, hdef⟩
                  have hDz : wr.heap.size + 2 ≤ D := by simpa using hD
                  have HDZ : Hid (w.heap.size ≠ D ∧ w.heap.size ≤ D) := ⟨by omega, by omega⟩
                  clear hDz
                  clear h2 h3 d2 d3 hdef hD hMD
                  refine hK _ _ ?_
                  go_wp2
                  exact ret_bool_mark rfl rfl (box_set HD.out.1 _) ((Kep.set (K := fun q => q = D) W2 _ (fun e => HDZ.out.1 e)).keep D (Array.getElem?_eq_some_iff.1 HD.out.2.2).1 rfl |>.trans HD.out.2.2) HDZ.out.1 HDZ.out.2 (HD.out.2.1.setCell (p := ⟨w.heap.size, 0, none⟩) (Nat.le_refl _) _)
                case stop =>
                  rintro D c pre M1 W2 hD hMD hpre h2 hdef
                  exact h2.elim
end Go.Proofs.Ytpophalhmjchkaa

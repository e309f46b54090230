/-
  The pairs from a key on, by the iterator that tells them.
-/
import Derived.Test.YtpophalhmjchkaaLvs
import Derived.RangeFuncCalls
namespace Go.Proofs.Ytpophalhmjchkaa
open Go.RowKit Go.Shelf

attribute [local go_sem] Oper.semAt_some

set_option maxHeartbeats 2000000 in
set_option maxRecDepth 20000 in
theorem lfrom_at (b : Nat) (ps : List KV) (k : ByteArray) (wT : World) (h : Lf wT b ps) (hs : Srt ps) (hn : ps.length ≤ 100) :
    ∃ a c, Sl wT 2 a (fromL k ps).length c (pcs (fromL k ps)) ∧ ∀ w, Below wT.heap.size wT w → Calls Try.prog 32 #[.pointer (some ⟨b, 0, none⟩), .string k] w fun e w' => e = .returned (.slice a (fromL k ps).length c) ∧ Below w.heap.size w w' := by
  obtain ⟨i0, hi, hz0, hz1, hz2⟩ := info_parts info79
  have hp := fun w (hb : Below wT.heap.size wT w) => lplace_any b ps k w (h.below hb) hs (by omega)
  have hkl : (keysP ps).length = ps.length := by simp [keysP]
  have hLl := lbS_le (keysP ps) k
  rw [hkl] at hLl
  rw [← drop_from hs]
  obtain ⟨L, hL⟩ : ∃ L, L = lbS (keysP ps) k := ⟨_, rfl⟩
  rw [← hL] at hp hLl ⊢
  obtain ⟨a, c, q1, q2⟩ := h
  obtain ⟨a2, r1, r2⟩ := slice_lo Try.underlying57 hi hz1 q2 hLl
  rw [← pcs_drop] at r2
  rw [List.length_drop]
  refine ⟨a2, c - L, r2, fun w hb => ?_⟩
  have hbl : b < wT.heap.size := (Array.getElem?_eq_some_iff.1 q1).1
  have hpw := hp w hb
  have HC : Hid (∀ w1, Below w.heap.size w w1 → w1.cell? ⟨b, 0, none⟩ = some (.slice a ps.length c)) := (by
    intro w1 hb1
    have := (hb1.cell (p := ⟨b, 0, none⟩) (Nat.lt_of_lt_of_le hbl hb.size)).trans (hb.cell (p := ⟨b, 0, none⟩) hbl)
    exact this.trans (cell_blk q1 0))
  obtain ⟨n2, hn2⟩ : ∃ n2, n2 = ps.length - L := ⟨_, rfl⟩
  obtain ⟨c2, hc2⟩ : ∃ c2, c2 = c - L := ⟨_, rfl⟩
  rw [← hn2, ← hc2] at r1 ⊢
  clear hs hkl hL hn hLl hz0 hz1 hz2 hi hn2 hc2 r2 q1 q2 hp hbl
  go_enter Try.func32, Try.ntmps32
  go_wp2_with fail
  refine Calls.mono hpw ?_
  rintro e w1 ⟨rfl, hb1⟩
  have c0 := HC.out w1 hb1
  clear HC hpw
  go_wp2
  go_ret
  exact ⟨rfl, hb1⟩

/-- The pairs of a leaf from k on. -/
def lfP (k : ByteArray) (x : Nat × List KV) : List KV := fromL k x.2
theorem lfP_pre {k : ByteArray} {xs pre : List (Nat × List KV)} {x : Nat × List KV} (h : pre ++ [x] <+: xs) {ys : List KV} (hy : ys <+: lfP k x) : pre.flatMap (lfP k) ++ ys <+: xs.flatMap (lfP k) := by
  obtain ⟨r, rfl⟩ := h
  rw [List.flatMap_append, List.flatMap_append, List.append_assoc]
  refine (List.prefix_append_right_inj _).2 ?_
  simp only [List.flatMap_cons, List.flatMap_nil, List.append_nil]
  exact hy.trans (List.prefix_append _ _)
theorem lfP_end (k : ByteArray) (pre : List (Nat × List KV)) (x : Nat × List KV) : (pre ++ [x]).flatMap (lfP k) = pre.flatMap (lfP k) ++ lfP k x := by simp [List.flatMap_append]
/-- A pair as it is told. -/
def encP (p : KV) : Array Value := #[.string p.1, .string p.2]
theorem pair_at {w : World} {a : Option Addr} {n c : Nat} {qs : List KV} (h : Sl w 2 a n c (pcs qs)) {j : Nat} (hj : j < qs.length) : ∃ b off, a = some ⟨b, off, none⟩ ∧ b < w.heap.size ∧ w.cell? ⟨b, off + j * 2, none⟩ = some (.string qs[j].1) ∧ w.cell? ⟨b, off + j * 2 + 1, none⟩ = some (.string qs[j].2) := by
  obtain ⟨b, off, rfl, hbl, hc⟩ := h.at (j := j * 2) (by rw [pcs_len]; omega)
  refine ⟨b, off, rfl, hbl, ?_, ?_⟩
  · rw [hc (j * 2) (by rw [pcs_len]; omega)]
    have e := (pcs_get (ps := qs) (j := j) hj).1
    rw [List.getElem?_eq_getElem (by rw [pcs_len]; omega)] at e
    exact e
  · have := hc (j * 2 + 1) (by rw [pcs_len]; omega)
    rw [← Nat.add_assoc] at this
    rw [this]
    have e := (pcs_get (ps := qs) (j := j) hj).2
    rw [List.getElem?_eq_getElem (by rw [pcs_len]; omega)] at e
    exact e

theorem from_any (b : Nat) (k : ByteArray) (w : World) :
    Calls Try.prog 18 #[.pointer (some ⟨b, 0, none⟩), .string k] w fun e w' => e = .returned (.func (.func 30) #[] #[.pointer (some ⟨w.heap.size, 0, none⟩), .pointer (some ⟨w.heap.size + 1, 0, none⟩)]) ∧ w' = (w.alloc (.cells #[.pointer (some ⟨b, 0, none⟩)] 24)).alloc (.cells #[.string k] 9) := by
  go_enter Try.func18, Try.ntmps18
  go_wp2
  go_ret
  exact ⟨rfl, by simp⟩

/-- Between two rounds: what has come, what the caller owns. -/
structure FI (J : List KV → (Nat → Prop) → World → Prop) (M : Nat → Prop) (W1 : World) (xs : List KV) (M' : Nat → Prop) (w' : World) : Prop where
  j : J xs M' w'
  st : Stp M W1 M' w'
theorem FI.step {J J' : List KV → (Nat → Prop) → World → Prop} {M : Nat → Prop} {W1 : World} {xs ys : List KV} {M' M'' : Nat → Prop} {w' w'' : World} (h : FI J M W1 xs M' w') (hs : Stp M' w' M'' w'') (hj : J' ys M'' w'') : FI J' M W1 ys M'' w'' := ⟨hj, h.st.trans hs⟩
theorem Stp.on {M M' : Nat → Prop} {W1 w' w'' : World} (h : Stp M W1 M' w') {K : Nat → Prop} (hk : Kep K w' w'') (hK : ∀ k, k < W1.heap.size → K k) : Stp M W1 M' w'' :=
  ⟨⟨hk.os.trans h.kep.os, hk.tape.trans h.kep.tape, hk.output.trans h.kep.output, Nat.le_trans h.kep.size hk.size, fun k h1 h2 => (hk.keep k (Nat.lt_of_lt_of_le h1 h.kep.size) (hK k h1)).trans (h.kep.keep k h1 h2)⟩, h.own, fun k h1 => Nat.lt_of_lt_of_le (h.lt k h1) hk.size⟩
theorem FI.kept {J : List KV → (Nat → Prop) → World → Prop} {B : Nat} (hJ : Stab B J) {M : Nat → Prop} {W1 : World} {xs : List KV} {M' : Nat → Prop} {w' w'' : World} (h : FI J M W1 xs M' w') (hB : B ≤ W1.heap.size) {B2 : Nat} (hB2 : W1.heap.size ≤ B2) (hk : Kep (fun k => k < B2 ∨ M' k) w' w'') : FI J M W1 xs M' w'' :=
  ⟨hJ _ _ _ _ h.j (hk.mono fun _ _ h2 => h2.imp (fun h3 => by omega) id), h.st.on hk (fun k h1 => .inl (by omega))⟩

set_option maxRecDepth 100000 in
set_option maxHeartbeats 4000000 in
theorem from_seq (wT : World) (b h : Nat) (t : T) (k : ByteArray) (hT : Tr wT b h t) (w : World) (b1 b2 : Nat) (hb : Below wT.heap.size wT w) (c1 : w.cell? ⟨b1, 0, none⟩ = some (.pointer (some ⟨b, 0, none⟩))) (c2 : w.cell? ⟨b2, 0, none⟩ = some (.string k)) :
    Seq Try.prog 30 #[.pointer (some ⟨b1, 0, none⟩), .pointer (some ⟨b2, 0, none⟩)] encP (fun q => q < wT.heap.size ∨ q = b1 ∨ q = b2) (fromL k (toL h t)) w := by
  obtain ⟨v, t1, t2, t3⟩ := hT
  obtain ⟨xs, hxs, hlf, hsq⟩ := leaves_seq wT k t2 t3.val t3.max
  have hok : ∀ x ∈ xs, Srt x.2 ∧ x.2.length ≤ 8 := fun x hx => lvs_ok (k := k) t3.val t3.max x.2 (by rw [← hxs]; exact List.mem_map_of_mem hx)
  have hall : xs.flatMap (lfP k) = fromL k (toL h t) := by
    rw [← lvs_from t3.val, ← hxs, List.flatMap_map]
    rfl
  rw [← hall]
  clear hall hxs t3
  obtain ⟨ty, bx, rfl⟩ := Nd.ptr t2
  intro n l J Jx M W hR hM hJ hJx hY h0
  have k1 := hR.cell (.inr (.inl rfl)) c1
  have k2 := hR.cell (.inr (.inr rfl)) c2
  have hbW : Below wT.heap.size wT W := hb.trans ((hR.mono (K' := fun k => k < wT.heap.size) fun _ _ h => .inl h).below hb.size)
  obtain ⟨W1, hW1⟩ : ∃ W1, W1 = W.alloc (.cells #[.func (.yield l) #[] #[]] 73) := ⟨_, rfl⟩
  have hb1 : Below wT.heap.size wT W1 := by rw [hW1]; exact hbW.alloc hbW.size _
  have hk1 : ∀ K, Kep K W W1 := fun K => by rw [hW1]; exact Kep.alloc _ W _
  have k3 := (hk1 (fun _ => True)).cell trivial k1
  have k4 := (hk1 (fun _ => True)).cell trivial k2
  have k5 : W1.cell? ⟨W.heap.size, 0, none⟩ = some (.func (.yield l) #[] #[]) := by rw [hW1]; exact cell_one_new _ _ _ 0 _ rfl
  have h1 : J [] M W1 := hJ _ _ _ _ h0 (hk1 _)
  have hbt : b < wT.heap.size := (Array.getElem?_eq_some_iff.1 t1).1
  have k6 : W1.cell? ⟨b, 0, none⟩ = some (.iface ty (.pointer (some ⟨bx, 0, none⟩))) := (hb1.cell (p := ⟨b, 0, none⟩) hbt).trans (cell_blk t1 0)
  have hs1 : W.heap.size < W1.heap.size := by rw [hW1]; simp
  have HBT : Hid (∀ M' w', Stp M W1 M' w' → Below wT.heap.size wT w' ∧ w'.cell? ⟨b2, 0, none⟩ = some (.string k) ∧ w'.cell? ⟨W.heap.size, 0, none⟩ = some (.func (.yield l) #[] #[])) := (by
    intro M' w' hst
    refine ⟨hb1.trans ((hst.kep.mono (K' := fun k => k < wT.heap.size) fun q _ h h2 => (hM q h2).1 (.inl h)).below hb1.size), hst.kep.cell (fun h => (hM b2 h).1 (.inr (.inr rfl))) k4, hst.kep.cell (fun h => Nat.lt_irrefl _ (hM _ h).2) k5⟩)
  have hst1 : FI J M W1 [] M W1 := ⟨h1, Stp.refl fun q hq => by have := (hM q hq).2; omega⟩
  have HM : Hid (W1 = W.alloc (.cells #[.func (.yield l) #[] #[]] 73)) := hW1
  have hc31 := leavesFrom_any ty bx k W1.drew
  rw [hW1] at k3 k4 k6 hc31
  clear hW1 t1 t2 hbt k1 k2 c1 c2 h1 h0 k5
  refine callsIn_of_wp_marks Try.func30 rfl trivial ?_ rfl
  simp only [Try.ntmps30, List.size_toArray, List.length_cons, List.length_nil, Nat.reduceAdd, Nat.reduceSub, Array.replicate_succ, Array.replicate_zero, List.push_toArray, List.append_toArray, List.nil_append, List.cons_append]
  refine wpIn_wide.2 ?_
  go_wp2
  refine wp_mono (Q := Exit.then (fun a5 w5 => a5 = { tmps := #[.func (.yield l) #[] #[], .pointer (some ⟨b1, 0, none⟩), .pointer (some ⟨b2, 0, none⟩), .pointer (some ⟨W.heap.size, 0, none⟩), undef, undef, undef, .pointer (some ⟨b, 0, none⟩), .pointer (some ⟨b, 0, none⟩), .pointer (some ⟨b, 0, none⟩),
      .iface ty (.pointer (some ⟨bx, 0, none⟩)), .string k, .func (.func 43) #[] #[.pointer (some ⟨W1.heap.size, 0, none⟩), .pointer (some ⟨W1.heap.size + 1, 0, none⟩)], undef, undef, undef, undef, undef, undef, undef, undef, undef, undef, undef, undef, undef, undef, undef, undef, undef], defers := [] } ∧
      w5 = ((W1.alloc (.cells #[.iface ty (.pointer (some ⟨bx, 0, none⟩))] 61)).alloc (.cells #[.string k] 9)).drew) (fun _ _ _ => False)) ?reg ?cont
  case reg =>
    go_region_held3 (fun w' => w'.cell? ⟨b, 0, none⟩ = some (.iface ty (.pointer (some ⟨bx, 0, none⟩))) ∧ w'.cell? ⟨b1, 0, none⟩ = some (.pointer (some ⟨b, 0, none⟩)) ∧ w'.cell? ⟨b2, 0, none⟩ = some (.string k)) (go_keep)
      (first
        | (go_at_call 31; refine Calls.mono hc31 ?_; rintro e w5 ⟨rfl, rfl⟩))
    exact ⟨by rw [HM.out]; simp, by rw [HM.out]⟩
  case cont =>
    rename_i K hK
    intro e a5 w5 h5
    cases e with
    | normal =>
      obtain ⟨rfl, rfl⟩ := h5
      refine hK _ _ ?_
      go_wp2
      obtain ⟨w6, hw6⟩ : ∃ w6, w6 = ((W1.alloc (.cells #[.iface ty (.pointer (some ⟨bx, 0, none⟩))] 61)).alloc (.cells #[.string k] 9)).drew := ⟨_, rfl⟩
      rw [← hw6]
      have hk6 : ∀ K, Kep K W1 w6 := fun K => by rw [hw6]; exact ((Kep.alloc K W1 _).trans (Kep.alloc K _ _)).trans (Kep.drew K _)
      have hz6 : w6.heap.size = W1.heap.size + 2 := by
        rw [hw6]
        show ((W1.alloc (.cells #[.iface ty (.pointer (some ⟨bx, 0, none⟩))] 61)).alloc (.cells #[.string k] 9)).heap.size = _
        simp
      have hv6 : w6.cell? ⟨W1.heap.size, 0, none⟩ = some (.iface ty (.pointer (some ⟨bx, 0, none⟩))) := by rw [hw6]; exact (Kep.drew (fun _ => True) _).cell trivial ((Kep.alloc (fun _ => True) _ _).cell trivial (cell_one_new _ _ _ 0 _ rfl))
      have hs6 : w6.cell? ⟨W1.heap.size + 1, 0, none⟩ = some (.string k) := by
        rw [hw6]
        have := cell_one_new (W1.alloc (.cells #[.iface ty (.pointer (some ⟨bx, 0, none⟩))] 61)) (.string k) 9 0 _ rfl
        rw [World.size_alloc] at this
        exact (Kep.drew (fun _ => True) _).cell trivial this
      have hfi6 := hst1.kept hJ (by omega) (B2 := W1.heap.size) (Nat.le_refl _) (hk6 _)
      have hbr := (HBT.out M w6 hfi6.st).1
      have hsq6 := hsq w6 W1.heap.size (W1.heap.size + 1) hbr hv6 hs6
      have hbz := hb1.size
      clear hw6 hv6 hs6 hc31 k3 k4 k6 HM hsq
      refine wpIn_wide.1 (range_law (n := n) (gf := 43) (lb := #[.pointer (some ⟨W1.heap.size, 0, none⟩), .pointer (some ⟨W1.heap.size + 1, 0, none⟩)]) rfl (enters_of Try.func43 (by kernel_rfl) rfl) hsq6 ?lt (fun _ => rfl)
        (fun pre M1 W' => FI J M W1 (pre.flatMap (lfP k)) M1 W') (fun c pre M1 W' => c = .ret ∧ ∃ ys, ys <+: xs.flatMap (lfP k) ∧ FI Jx M W1 ys M1 W')
        (fun pre M1 W2 W3 h2 hk => h2.kept hJ (by omega) (by omega) hk)
        (fun c pre M1 W2 W3 h2 hk => ⟨h2.1, by obtain ⟨ys, hy, h3⟩ := h2.2; exact ⟨ys, hy, h3.kept hJx (by omega) (by omega) hk⟩⟩)
        M ?own hfi6
        (fun x => { tmps := #[.func (.yield l) #[] #[], .pointer (some ⟨b1, 0, none⟩), .pointer (some ⟨b2, 0, none⟩), .pointer (some ⟨W.heap.size, 0, none⟩), .pointer (some ⟨x.1, 0, none⟩), undef, undef, .pointer (some ⟨b, 0, none⟩), .pointer (some ⟨b, 0, none⟩), .pointer (some ⟨b, 0, none⟩),
          .iface ty (.pointer (some ⟨bx, 0, none⟩)), .string k, .func (.func 43) #[] #[.pointer (some ⟨W1.heap.size, 0, none⟩), .pointer (some ⟨W1.heap.size + 1, 0, none⟩)], .pointer (some ⟨x.1, 0, none⟩), undef, undef, undef, undef, undef, undef, undef, undef, undef, undef, undef, undef, undef, undef, undef, undef], defers := [] }) ?assign ?body ?done ?stop)
      case lt =>
        rintro q (h2 | h2 | h2)
        · have := hbr.size; omega
        · omega
        · omega
      case own =>
        intro q hq
        have hql := hM q hq
        refine ⟨?_, by omega⟩
        rintro (h2 | h2 | h2)
        · exact hql.1 (.inl h2)
        · omega
        · omega
      case assign =>
        intro m l' x W2 K hK
        dsimp only [encL]
        gi_wp2
        exact hK
      case body =>
        rintro m l' pre x M1 W2 hl2 hpre
        obtain ⟨hbW2, hk4, hk5⟩ := HBT.out M1 W2 hl2.st
        have hxm : x ∈ xs := hpre.subset (by simp)
        obtain ⟨a, c, hsl, hcl⟩ := lfrom_at x.1 x.2 k wT (hlf x hxm) (hok x hxm).1 (by have := (hok x hxm).2; omega)
        have hcl2 := hcl W2 hbW2
        gi_wp2_with (refine ⟨trivial, fun h => (by cases h), ?_⟩; gi_at_call 32; refine (CallsIn.inRound l' (callsIn_wide.2 hcl2)).mono ?_; rintro e W3 ⟨rfl, hb3⟩)
        obtain ⟨qs, hqs⟩ : ∃ qs, qs = lfP k x := ⟨_, rfl⟩
        obtain ⟨N, hN⟩ : ∃ N, N = qs.length := ⟨_, rfl⟩
        have e1 : (fromL k x.2).length = N := by rw [hN, hqs]; rfl
        rw [e1] at hsl ⊢
        rw [show pcs (fromL k x.2) = pcs qs from by rw [hqs]; rfl] at hsl
        have hN8 : N ≤ 8 := by
          have := (hok x hxm).2
          rw [← e1]
          exact Nat.le_trans (List.length_filter_le _ _) this
        have hfi3 : FI J M W1 (pre.flatMap (lfP k) ++ qs.take 0) M1 W3 ∧ Stp M1 W2 M1 W3 := by
          have hkk : ∀ K, Kep K W2 W3 := fun K => Kep.of_below hb3 (fun _ h _ => h)
          rw [List.take_zero, List.append_nil]
          exact ⟨hl2.kept hJ (by omega) (Nat.le_refl _) (hkk _), (Stp.refl hl2.st.lt).on (hkk (fun _ => True)) (fun _ _ => trivial)⟩
        have HPR : Hid (∀ j (hj : j < N), ∃ p, qs[j]? = some p ∧ (∃ bb off, a = some ⟨bb, off, none⟩ ∧ ∀ w', Below wT.heap.size wT w' → w'.cell? ⟨bb, off + j * 2, none⟩ = some (.string p.1) ∧ w'.cell? ⟨bb, off + j * 2 + 1, none⟩ = some (.string p.2)) ∧ qs.take (j + 1) = qs.take j ++ [p] ∧ pre.flatMap (lfP k) ++ qs.take (j + 1) <+: xs.flatMap (lfP k)) := (by
          intro j hj
          have hj2 : j < qs.length := by omega
          obtain ⟨bb, off, e, hbb, d0, d1⟩ := pair_at hsl hj2
          refine ⟨qs[j], List.getElem?_eq_getElem hj2, ⟨bb, off, e, fun w' hb' => ⟨(hb'.cell (p := ⟨bb, off + j * 2, none⟩) hbb).trans d0, (hb'.cell (p := ⟨bb, off + j * 2 + 1, none⟩) hbb).trans d1⟩⟩, List.take_succ_eq_append_getElem hj2, lfP_pre hpre ?_⟩
          rw [← hqs]
          exact List.take_prefix _ _)
        have HEND : Hid ((pre ++ [x]).flatMap (lfP k) = pre.flatMap (lfP k) ++ qs.take N) := (by
          show _ = _
          rw [lfP_end, hN, List.take_length, hqs])
        have HFI : Hid _ := hfi3
        clear hqs hN e1 hsl hcl hcl2 hpre hxm hfi3 hk4 hk5 hbW2
        gi_loopw [18] (fun i wr => ∃ (j : Nat) (M3 : Nat → Prop), j ≤ N ∧ i = .int .i64 j ∧ FI J M W1 (pre.flatMap (lfP k) ++ qs.take j) M3 wr ∧ Stp M1 W2 M3 wr) (fun i _ => N - (intOf i).toNat)
        case atStart => exact ⟨0, M1, Nat.zero_le _, rfl, HFI.out.1, HFI.out.2⟩
        case round =>
          obtain ⟨j, M3, hjN, rfl, hf3, hs3⟩ := hrel
          obtain ⟨hbr, _, hk5⟩ := HBT.out M3 wr hf3.st
          by_cases hlt : j < N
          · obtain ⟨p, hp, ⟨bb, off, rfl, hcc⟩, htk, hpf⟩ := HPR.out j hlt
            obtain ⟨d0, d1⟩ := hcc wr hbr
            have hltI : (j : Int) < (N : Int) := by omega
            obtain ⟨u, v⟩ := p
            have hjA : J (pre.flatMap (lfP k) ++ qs.take j) M3 (wr.alloc (.cells #[.string u, .string v] 79)) := hJ _ _ _ _ hf3.j (Kep.alloc _ wr _)
            have hk5A : (wr.alloc (.cells #[.string u, .string v] 79)).cell? ⟨W.heap.size, 0, none⟩ = some (.func (.yield l) #[] #[]) := (Kep.alloc (fun _ => True) wr _).cell trivial hk5
            obtain ⟨fn, tmps, assign, body, hy, hr⟩ := hY (m - 1) (pre.flatMap (lfP k) ++ qs.take j) (u, v) M3 _ hjA (by rw [List.append_assoc, ← htk]; exact hpf)
            dsimp only [encP] at hy
            have HSA : Hid (FI J M W1 (pre.flatMap (lfP k) ++ qs.take j) M3 (wr.alloc (.cells #[.string u, .string v] 79)) ∧ Stp M1 W2 M3 (wr.alloc (.cells #[.string u, .string v] 79))) := ⟨⟨hjA, hf3.st.on (Kep.alloc (fun _ => True) wr _) (fun _ _ => trivial)⟩, hs3.on (Kep.alloc (fun _ => True) wr _) (fun _ _ => trivial)⟩
            have HTK : Hid (qs.take (j + 1) = qs.take j ++ [(u, v)] ∧ pre.flatMap (lfP k) ++ qs.take (j + 1) <+: xs.flatMap (lfP k)) := ⟨htk, hpf⟩
            clear hjA hcc htk hpf hp HPR hf3 hs3 hbr HFI
            gi_wp2
            refine ⟨fun h => (by cases h), ?_⟩
            refine RoundIn.mono (F := Fence.wide.inRound l') hr ?_
            rintro e W4 ⟨M4, hst4, (⟨rfl, hj4⟩ | ⟨rfl, hj4⟩)⟩
            · gi_wp2
              go_roundw
              case rel => exact ⟨j + 1, M4, by omega, by go_num, ⟨by rw [HTK.out.1, ← List.append_assoc]; exact hj4, HSA.out.1.st.trans hst4⟩, HSA.out.2.trans hst4⟩
              case measure => simp [intOf]; omega
            · gi_wp2
              exact ⟨M4, HSA.out.2.trans hst4, rfl, _, HTK.out.2, ⟨by rw [HTK.out.1, ← List.append_assoc]; exact hj4, HSA.out.1.st.trans hst4⟩⟩
          · obtain rfl : j = N := by omega
            have hltI : ¬ (j : Int) < (j : Int) := by omega
            gi_wp2
            exact ⟨M3, hs3, by show FI J M W1 ((pre ++ [x]).flatMap (lfP k)) M3 wr; rw [HEND.out]; exact hf3⟩
      case done =>
        rintro D M1 W2 hD hMD hl2 hdef
        refine leaves_marks [D] W2 (by simp) (by simpa using hdef) (fun W' hk => ⟨_, results_none rfl _ _ _, ⟨_, rfl⟩, M1, .inl (hJ _ _ _ _ hl2.j (hk.mono fun q _ h2 h3 => ?_))⟩)
        rw [List.mem_singleton] at h3
        subst h3
        rcases h2 with h2 | h2
        · omega
        · exact hMD h2
      case stop =>
        rintro D c pre M1 W2 hD hMD hpre ⟨rfl, ys, hys, hl2⟩ hdef
        refine wpIn_wide.2 ?_
        go_wp2
        refine leaves_marks [D] W2 (by simp) (by simpa using hdef) (fun W' hk => ⟨_, results_none rfl _ _ _, ⟨_, rfl⟩, M1, .inr ⟨ys, hys, hJx _ _ _ _ hl2.j (hk.mono fun q _ h2 h3 => ?_)⟩⟩)
        rw [List.mem_singleton] at h3
        subst h3
        rcases h2 with h2 | h2
        · omega
        · exact hMD h2
    | _ => exact h5.elim

/-- The iterator as From has made it. -/
theorem made_seq {wT W : World} {b h : Nat} {t : T} (k : ByteArray) (hT : Tr wT b h t) (hb : Below wT.heap.size wT W) :
    Seq Try.prog 30 #[.pointer (some ⟨W.heap.size, 0, none⟩), .pointer (some ⟨W.heap.size + 1, 0, none⟩)] encP (fun q => q < wT.heap.size ∨ q = W.heap.size ∨ q = W.heap.size + 1) (fromL k (toL h t)) ((W.alloc (.cells #[.pointer (some ⟨b, 0, none⟩)] 24)).alloc (.cells #[.string k] 9)) := by
  refine from_seq wT b h t k hT _ _ _ ((hb.alloc hb.size _).alloc (by have := hb.size; simp; omega) _) ?_ ?_
  · exact (Kep.alloc (fun _ => True) _ _).cell trivial (cell_one_new _ _ _ 0 _ rfl)
  · have := cell_one_new (W.alloc (.cells #[.pointer (some ⟨b, 0, none⟩)] 24)) (.string k) 9 0 _ rfl
    rwa [World.size_alloc] at this
theorem made_lt {wT W : World} {v u : Value} (hb : Below wT.heap.size wT W) {t1 t2 : Nat} : ∀ q, (q < wT.heap.size ∨ q = W.heap.size ∨ q = W.heap.size + 1) → q < ((W.alloc (.cells #[v] t1)).alloc (.cells #[u] t2)).heap.size := by
  have := hb.size
  rintro q (h | h | h) <;> simp <;> omega
theorem made_kep (K : Nat → Prop) (W : World) (o1 o2 : Obj) : Kep K W ((W.alloc o1).alloc o2) := (Kep.alloc K W _).trans (Kep.alloc K _ _)
theorem pre_get {L pre : List KV} {x : KV} (h : pre ++ [x] <+: L) : ∃ h2 : pre.length < L.length, L[pre.length] = x := by
  obtain ⟨r, rfl⟩ := h
  exact ⟨by simp, by simp⟩
end Go.Proofs.Ytpophalhmjchkaa

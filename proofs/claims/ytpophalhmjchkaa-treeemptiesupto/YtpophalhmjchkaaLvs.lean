/-
  The leaves under a node, from the one where a key belongs on, by the iterator that tells them.
-/
import Derived.Test.YtpophalhmjchkaaSeqs
import Derived.Test.YtpophalhmjchkaaFro
import Derived.Test.YtpophalhmjchkaaRef
import Derived.Maps.AppendAt
namespace Go.Proofs.Ytpophalhmjchkaa
open Go.RowKit Go.Shelf

attribute [local go_sem] Oper.semAt_some

theorem leavesFrom_any (ty bx : Nat) (k : ByteArray) (w : World) :
    Calls Try.prog 31 #[.iface ty (.pointer (some ⟨bx, 0, none⟩)), .string k] w fun e w' => e = .returned (.func (.func 43) #[] #[.pointer (some ⟨w.heap.size, 0, none⟩), .pointer (some ⟨w.heap.size + 1, 0, none⟩)]) ∧ w' = (w.alloc (.cells #[.iface ty (.pointer (some ⟨bx, 0, none⟩))] 61)).alloc (.cells #[.string k] 9) := by
  go_enter Try.func31, Try.ntmps31
  go_wp2
  go_ret
  exact ⟨rfl, by simp⟩
/-- A leaf as it is told. -/
def encL (x : Nat × List KV) : Array Value := #[.pointer (some ⟨x.1, 0, none⟩)]

theorem cell_lt {w : World} {b o : Nat} {v : Value} (h : w.cell? ⟨b, o, none⟩ = some v) : b < w.heap.size := by
  by_cases hb : b < w.heap.size
  · exact hb
  · simp [World.cell?, Array.getElem?_eq_none (Nat.le_of_not_lt hb)] at h
theorem Kep.cell {K : Nat → Prop} {w w' : World} {b o : Nat} {v : Value} (h : Kep K w w') (hk : K b) (hc : w.cell? ⟨b, o, none⟩ = some v) : w'.cell? ⟨b, o, none⟩ = some v := (World.cell?_of_block (h.keep b (cell_lt hc) hk)).trans hc

set_option maxRecDepth 100000 in
set_option maxHeartbeats 2000000 in
theorem leaves_leaf (N b b1 b2 : Nat) (ps : List KV) (w : World) (c1 : w.cell? ⟨b1, 0, none⟩ = some (.iface 56 (.pointer (some ⟨b, 0, none⟩)))) :
    Seq Try.prog 43 #[.pointer (some ⟨b1, 0, none⟩), .pointer (some ⟨b2, 0, none⟩)] encL (fun k => k < N ∨ k = b1 ∨ k = b2) [(b, ps)] w := by
  intro n l J Jx M W hR hM hJ hJx hY h0
  have k1 := hR.cell (.inr (.inl rfl)) c1
  have kb := cell_lt k1
  obtain ⟨W1, hW1⟩ : ∃ W1, W1 = W.alloc (.cells #[.func (.yield l) #[] #[]] 95) := ⟨_, rfl⟩
  have h1 : J [] M W1 := hJ _ _ _ _ h0 (by rw [hW1]; exact Kep.alloc _ W _)
  have k2 : W1.cell? ⟨b1, 0, none⟩ = some (.iface 56 (.pointer (some ⟨b, 0, none⟩))) := by rw [hW1]; exact (Kep.alloc (fun _ => True) W _).cell trivial k1
  obtain ⟨fn, tmps, assign, body, hy, hr⟩ := hY (n - 1) [] (b, ps) M W1 h1 ⟨[], rfl⟩
  dsimp only [encL] at hy
  have ht := ta_ll (.pointer (some ⟨b, 0, none⟩))
  rw [hW1] at hy hr k2
  clear hR hM hJ hJx hY h0 h1 k1 c1 hW1 W1
  refine callsIn_of_wp Try.func43 rfl trivial ?_ rfl
  simp only [Try.ntmps43, List.size_toArray, List.length_cons, List.length_nil, Nat.reduceAdd, Nat.reduceSub, Array.replicate_succ, Array.replicate_zero, List.push_toArray, List.append_toArray, List.nil_append, List.cons_append]
  gi_wp2
  refine ⟨fun h => (by cases h), ?_⟩
  refine hr.mono ?_
  rintro e W3 ⟨M3, hst, (⟨rfl, hj⟩ | ⟨rfl, hj⟩)⟩
  · gi_wp2
    refine bodyPost_ret (results_none rfl _ _ _) rfl ?_
    exact ⟨⟨_, rfl⟩, M3, .inl hj⟩
  · gi_wp2
    refine bodyPost_ret (results_none rfl _ _ _) rfl ?_
    exact ⟨⟨_, rfl⟩, M3, .inr ⟨_, List.prefix_refl _, hj⟩⟩

/-- The marks of loops that are over are taken away at the function's end. -/
theorem leaves_marks {P : Program} {n : Nat} {fn : Func} {tmps : Array Value} {R : Ending → World → Prop} : ∀ (Ds : List Nat) (W : World), Ds.Nodup → (∀ D ∈ Ds, W.heap[D]? = some (.deferred (some []))) →
    (∀ W', Kep (fun k => k ∉ Ds) W W' → LeavesIn Fence.wide n P fn tmps R [] .returning W') → LeavesInM Fence.wide n P fn tmps R (Ds.map fun D => { target := .collected D, args := #[] }) .returning W
  | [], W, _, _, h => h W (Kep.refl _ W)
  | D :: Ds, W, hn, hD, h => by
    obtain ⟨h1, h2⟩ := List.nodup_cons.1 hn
    refine ⟨by simp, .inl ⟨D, W.putObj D (.deferred none), rfl, run_takeDeferred (hD D List.mem_cons_self), ?_⟩⟩
    refine leaves_marks Ds _ h2 (fun E hE => (World.putObj_heap_other (fun e => h1 (by rw [← e]; exact hE))).trans (hD E (List.mem_cons_of_mem _ hE))) (fun W' hk => h W' ?_)
    exact (Kep.put (K := fun k => k ∉ D :: Ds) W (.deferred none) (by simp)).trans (hk.mono fun k _ h3 h4 => h3 (List.mem_cons_of_mem _ h4))

theorem snoc_child {α : Type} (X : Nat → List α) (i j : Nat) : (List.range' i (j + 1)).flatMap X = (List.range' i j).flatMap X ++ X (i + j) := by
  rw [List.range'_1_concat, List.flatMap_append]
  simp
theorem pre_child {α : Type} {X : Nat → List α} {i : Nat} : ∀ {nn j : Nat}, j < nn → ∀ {ys : List α}, ys <+: X (i + j) → (List.range' i j).flatMap X ++ ys <+: (List.range' i nn).flatMap X
  | 0, j, h, _, _ => by omega
  | nn + 1, j, h, ys, hy => by
    rw [snoc_child]
    by_cases h2 : j < nn
    · exact (pre_child h2 hy).trans (List.prefix_append _ _)
    · obtain rfl : j = nn := by omega
      exact (List.prefix_append_right_inj _).2 hy
/-- Between two children: what has come, what the caller owns, the marks of the loops that are over. -/
structure LI (J : List (Nat × List KV) → (Nat → Prop) → World → Prop) (M : Nat → Prop) (W1 : World) (xs : List (Nat × List KV)) (M' : Nat → Prop) (Ds : List Nat) (w' : World) : Prop where
  j : J xs M' w'
  st : Stp M W1 M' w'
  nd : Ds.Nodup
  df : ∀ D ∈ Ds, W1.heap.size ≤ D ∧ ¬ M' D ∧ w'.heap[D]? = some (.deferred (some []))
theorem LI.step {J J' : List (Nat × List KV) → (Nat → Prop) → World → Prop} {M : Nat → Prop} {W1 : World} {xs ys : List (Nat × List KV)} {M' M'' : Nat → Prop} {Ds : List Nat} {w' w'' : World} (h : LI J M W1 xs M' Ds w') (hs : Stp M' w' M'' w'') (hj : J' ys M'' w'') : LI J' M W1 ys M'' Ds w'' :=
  ⟨hj, h.st.trans hs, h.nd, fun D hD => by
    obtain ⟨h1, h2, h3⟩ := h.df D hD
    have hlt := (Array.getElem?_eq_some_iff.1 h3).1
    exact ⟨h1, fun h4 => h2 (hs.own D hlt h4), (hs.kep.keep D hlt h2).trans h3⟩⟩
theorem LI.kept {J : List (Nat × List KV) → (Nat → Prop) → World → Prop} {B : Nat} (hJ : Stab B J) {M : Nat → Prop} {W1 : World} {xs : List (Nat × List KV)} {M' : Nat → Prop} {Ds : List Nat} {w' w'' : World} (h : LI J M W1 xs M' Ds w') (hB : B ≤ W1.heap.size) {B2 : Nat} (hB2 : W1.heap.size ≤ B2) (hD : ∀ D ∈ Ds, D < B2) (hk : Kep (fun k => k < B2 ∨ M' k) w' w'') : LI J M W1 xs M' Ds w'' :=
  ⟨hJ _ _ _ _ h.j (hk.mono fun _ _ h2 => h2.imp (fun h3 => by omega) id), ⟨⟨hk.os.trans h.st.kep.os, hk.tape.trans h.st.kep.tape, hk.output.trans h.st.kep.output, Nat.le_trans h.st.kep.size hk.size, fun k h1 h2 => (hk.keep k (Nat.lt_of_lt_of_le h1 h.st.kep.size) (.inl (by omega))).trans (h.st.kep.keep k h1 h2)⟩, h.st.own, fun k h1 => Nat.lt_of_lt_of_le (h.st.lt k h1) hk.size⟩, h.nd, fun D hDm => by
    obtain ⟨h1, h2, h3⟩ := h.df D hDm
    exact ⟨h1, h2, (hk.keep D (Array.getElem?_eq_some_iff.1 h3).1 (.inl (hD D hDm))).trans h3⟩⟩

set_option maxRecDepth 100000 in
set_option maxHeartbeats 2000000 in
theorem leaves_inner (wT : World) (h b b1 b2 : Nat) (bs : List ByteArray) (cs : List T) (k : ByteArray) (a1 a2 : Option Addr) (d1 d2 : Nat) (vs : List Value) (X : Nat → List (Nat × List KV)) (w : World)
    (hb : Below wT.heap.size wT w) (q1 : wT.heap[b]? = some (.cells #[.slice a1 bs.length d1, .slice a2 cs.length d2] 85 (0, 0))) (q2 : Sl wT 1 a1 bs.length d1 (scs bs)) (q3 : Sl wT 1 a2 cs.length d2 vs) (q4 : All2 (Nd wT h) vs cs)
    (hs : bs.Pairwise klt) (hlen : cs.length = bs.length + 1) (hn8 : cs.length ≤ 8)
    (c1 : w.cell? ⟨b1, 0, none⟩ = some (.iface 66 (.pointer (some ⟨b, 0, none⟩)))) (c2 : w.cell? ⟨b2, 0, none⟩ = some (.string k))
    (hX : ∀ j (hj : j < vs.length) w' b1' b2', Below wT.heap.size wT w' → w'.cell? ⟨b1', 0, none⟩ = some vs[j] → w'.cell? ⟨b2', 0, none⟩ = some (.string k) →
      Seq Try.prog 43 #[.pointer (some ⟨b1', 0, none⟩), .pointer (some ⟨b2', 0, none⟩)] encL (fun k => k < wT.heap.size ∨ k = b1' ∨ k = b2') (X j) w') :
    Seq Try.prog 43 #[.pointer (some ⟨b1, 0, none⟩), .pointer (some ⟨b2, 0, none⟩)] encL (fun k => k < wT.heap.size ∨ k = b1 ∨ k = b2) ((List.range' (pl bs k) (cs.length - pl bs k)).flatMap X) w := by
  obtain ⟨i0, hi, hz0, hz1, hz2⟩ := info_parts info61
  intro n l J Jx M W hR hM hJ hJx hY h0
  have k1 := hR.cell (.inr (.inl rfl)) c1
  have k2 := hR.cell (.inr (.inr rfl)) c2
  have hbW : Below wT.heap.size wT W := hb.trans ((hR.mono (K' := fun k => k < wT.heap.size) fun _ _ h => .inl h).below hb.size)
  obtain ⟨i, hie⟩ : ∃ i, i = pl bs k := ⟨_, rfl⟩
  have hile : i ≤ bs.length := by rw [hie]; exact pl_le bs k
  rw [← hie] at hY ⊢
  obtain ⟨W1, hW1⟩ : ∃ W1, W1 = W.alloc (.cells #[.func (.yield l) #[] #[]] 95) := ⟨_, rfl⟩
  have hb1 : Below wT.heap.size wT W1 := by rw [hW1]; exact hbW.alloc hbW.size _
  have hk1 : ∀ K, Kep K W W1 := fun K => by rw [hW1]; exact Kep.alloc _ W _
  have k3 := (hk1 (fun _ => True)).cell trivial k1
  have k4 := (hk1 (fun _ => True)).cell trivial k2
  have k5 : W1.cell? ⟨W.heap.size, 0, none⟩ = some (.func (.yield l) #[] #[]) := by rw [hW1]; exact cell_one_new _ _ _ 0 _ rfl
  have h1 : J [] M W1 := hJ _ _ _ _ h0 (hk1 _)
  have hpl := iplace_any b bs cs k W1.drew (InB'.below ⟨a1, d1, a2, d2, vs, q1, q2, q3, q4⟩ hb1.drew (fun _ _ h => h)) hs (by omega)
  rw [← hie] at hpl
  have hbt : b < wT.heap.size := (Array.getElem?_eq_some_iff.1 q1).1
  have m1 : wT.cell? ⟨b, 1, none⟩ = some (.slice a2 cs.length d2) := cell_blk q1 1
  have m2 : W1.cell? ⟨b, 1, none⟩ = some (.slice a2 cs.length d2) := (hb1.cell (p := ⟨b, 1, none⟩) hbt).trans m1
  obtain ⟨a3, r1, r2⟩ := slice_lo Try.underlying80 hi hz1 q3 (k := i) (by omega)
  have hvl := q4.len
  obtain ⟨bb, off, rfl, hbb, hvc⟩ := r2.at (j := 0) (by rw [List.length_drop]; omega)
  obtain ⟨cn, hcn⟩ : ∃ cn, cn = cs.length := ⟨_, rfl⟩
  obtain ⟨nn, hnn⟩ : ∃ nn, nn = cn - i := ⟨_, rfl⟩
  obtain ⟨cc, hcc⟩ : ∃ cc, cc = d2 - i := ⟨_, rfl⟩
  rw [← hcn] at r1 r2 m1 m2 hlen hn8 hY ⊢
  rw [← hnn, ← hcc] at r1 r2
  rw [← hnn] at hY ⊢
  have ht := ta_il (.pointer (some ⟨b, 0, none⟩))
  have ht2 := ta_ii (.pointer (some ⟨b, 0, none⟩))
  have HK : Hid (∀ w5, Below W1.drew.heap.size W1.drew w5 → w5.cell? ⟨b, 1, none⟩ = some (.slice a2 cn d2) ∧ w5.cell? ⟨b2, 0, none⟩ = some (.string k)) := (by
    intro w5 hb5
    have hlt : b < W1.heap.size := Nat.lt_of_lt_of_le hbt hb1.size
    exact ⟨(hb5.cell (p := ⟨b, 1, none⟩) hlt).trans m2, (hb5.cell (p := ⟨b2, 0, none⟩) (cell_lt k4)).trans k4⟩)
  have HST : Hid (∀ w5, Below W1.heap.size W1 w5 → LI J M W1 ((List.range' i 0).flatMap X) M [] w5) := (by
    intro w5 hb5
    have hkk : ∀ K, Kep K W1 w5 := fun K => Kep.of_below hb5 (fun k h1 _ => h1)
    have hs1 := (hk1 (fun _ => True)).size
    refine ⟨hJ _ _ _ _ h1 (hkk _), ⟨hkk _, fun _ _ h => h, fun k hk => ?_⟩, List.nodup_nil, by simp⟩
    have := (hM k hk).2
    have := hb5.size
    omega)
  have hs1 : W.heap.size < W1.heap.size := by rw [hW1]; simp
  have HBT : Hid (∀ M' w', Stp M W1 M' w' → Below wT.heap.size wT w' ∧ w'.cell? ⟨b2, 0, none⟩ = some (.string k) ∧ w'.cell? ⟨W.heap.size, 0, none⟩ = some (.func (.yield l) #[] #[])) := (by
    intro M' w' hst
    refine ⟨hb1.trans ((hst.kep.mono (K' := fun k => k < wT.heap.size) fun q _ h h2 => (hM q h2).1 (.inl h)).below hb1.size), hst.kep.cell (fun h => (hM b2 h).1 (.inr (.inr rfl))) k4, hst.kep.cell (fun h => Nat.lt_irrefl _ (hM _ h).2) k5⟩)
  rw [hW1] at hpl k3 k4 m2 HK
  have HCN : Hid (cn = cs.length ∧ nn = cn - i ∧ cc = d2 - i) := ⟨hcn, hnn, hcc⟩
  have HQ : Hid (∀ j (hj : i + j < vs.length), wT.cell? ⟨bb, off + j, none⟩ = some vs[i + j]) := (by
    intro j hj
    have := hvc j (by rw [List.length_drop]; omega)
    rw [List.getElem_drop] at this
    simpa using this)
  have HL : Hid (i ≤ bs.length ∧ cn = bs.length + 1 ∧ cn ≤ 8) := ⟨hile, hlen, hn8⟩
  have HIE : Hid (i = pl bs k ∧ W1 = W.alloc (.cells #[.func (.yield l) #[] #[]] 95)) := ⟨hie, hW1⟩
  clear hie hW1 hcn hnn hcc hi hz0 hz1 hz2 r2 q3 q2 q1 hvc hile hlen hn8 m1
  refine callsIn_of_wp_marks Try.func43 rfl trivial ?_ rfl
  simp only [Try.ntmps43, List.size_toArray, List.length_cons, List.length_nil, Nat.reduceAdd, Nat.reduceSub, Array.replicate_succ, Array.replicate_zero, List.push_toArray, List.append_toArray, List.nil_append, List.cons_append]
  refine wpIn_wide.2 ?_
  go_wp2
  refine wp_mono (Q := Exit.then (fun a5 w5 => a5 = { tmps := #[.func (.yield l) #[] #[], .pointer (some ⟨b1, 0, none⟩), .pointer (some ⟨b2, 0, none⟩), .pointer (some ⟨W.heap.size, 0, none⟩), .pointer none, .bool false, .pointer (some ⟨b, 0, none⟩), undef, undef, undef,
      .tuple #[.pointer none, .bool false], .iface 66 (.pointer (some ⟨b, 0, none⟩)), .tuple #[.pointer none, .bool false], .pointer none, .bool false, .bool false, undef, undef, undef, .iface 66 (.pointer (some ⟨b, 0, none⟩)), .pointer (some ⟨b, 0, none⟩),
      .pointer (some ⟨b, 0, none⟩), .pointer (some ⟨b, 0, none⟩), .pointer (some ⟨b, 1, none⟩), .slice a2 cn d2, .pointer (some ⟨b, 0, none⟩), .string k, .int .i64 (i : Int), .slice (some ⟨bb, off, none⟩) nn cc, .int .i64 (nn : Int), .int .i64 0, undef, undef, undef, undef, undef, undef, undef, undef, undef, undef, undef, undef], defers := [] } ∧
      Below (W.alloc (.cells #[.func (.yield l) #[] #[]] 95)).heap.size (W.alloc (.cells #[.func (.yield l) #[] #[]] 95)) w5) (fun _ _ _ => False)) ?reg ?cont
  case reg =>
    go_region_held3 (fun w' => w'.cell? ⟨b, 1, none⟩ = some (.slice a2 cn d2) ∧ w'.cell? ⟨b2, 0, none⟩ = some (.string k)) (go_keep)
      (first
        | (go_at_call 34; refine Calls.mono hpl ?_; rintro e w5 ⟨rfl, hb5⟩; have s0 := (HK.out w5 hb5).1; have s1 := (HK.out w5 hb5).2))
    exact ⟨rfl, (Below.refl _ _).drew.trans hb5⟩
  case cont =>
    rename_i K hK
    intro e a5 w5 h5
    cases e with
    | normal =>
      obtain ⟨rfl, hb5⟩ := h5
      refine hK _ _ ?_
      go_wp2
      refine wp_loop (fun a' w' => ∃ (j : Nat) (M' : Nat → Prop) (Ds : List Nat) (u8 u31 u32 u33 u34 u35 u36 u42 : Value), j ≤ nn ∧ LI J M W1 ((List.range' i j).flatMap X) M' Ds w' ∧
          a' = { tmps := #[.func (.yield l) #[] #[], .pointer (some ⟨b1, 0, none⟩), .pointer (some ⟨b2, 0, none⟩), .pointer (some ⟨W.heap.size, 0, none⟩), .pointer none, .bool false, .pointer (some ⟨b, 0, none⟩), undef, u8, undef,
            .tuple #[.pointer none, .bool false], .iface 66 (.pointer (some ⟨b, 0, none⟩)), .tuple #[.pointer none, .bool false], .pointer none, .bool false, .bool false, undef, undef, undef, .iface 66 (.pointer (some ⟨b, 0, none⟩)), .pointer (some ⟨b, 0, none⟩),
            .pointer (some ⟨b, 0, none⟩), .pointer (some ⟨b, 0, none⟩), .pointer (some ⟨b, 1, none⟩), .slice a2 cn d2, .pointer (some ⟨b, 0, none⟩), .string k, .int .i64 (i : Int), .slice (some ⟨bb, off, none⟩) nn cc, .int .i64 (nn : Int), .int .i64 (j : Int), u31, u32, u33, u34, u35, u36, undef, undef, undef, undef, undef, u42], defers := Ds.map fun D => { target := .collected D, args := #[] } })
        (fun a' _ => nn - (intOf (a'.tmps.getD 30 undef)).toNat) ?start ?round
      case start => exact ⟨0, M, [], _, _, _, _, _, _, _, _, Nat.zero_le _, HST.out w5 (by rw [HIE.out.2]; exact hb5), rfl⟩
      case round =>
        rintro _ wr ⟨j, M', Ds, u8, u31, u32, u33, u34, u35, u36, u42, hjn, hli, rfl⟩
        dsimp only
        by_cases hlt : j < nn
        · have hltI : (j : Int) < (nn : Int) := by omega
          obtain ⟨hbr, hk2, hk5⟩ := HBT.out M' wr hli.st
          have hij : i + j < vs.length := by have := HCN.out; have := HL.out; omega
          have hvj := (hbr.cell (p := ⟨bb, off + j, none⟩) hbb).trans (HQ.out j hij)
          obtain ⟨ty, bx, hvx⟩ := Nd.ptr (q4.get hij (by omega))
          have hsq := hX (i + j) hij
          rw [hvx] at hvj hsq
          have HSQ : Hid _ := hsq
          have HLI : Hid _ := hli
          clear hsq hvx hij hbr hli
          go_wp2_with (go_at_call 31; refine Calls.mono (leavesFrom_any ty bx k wr) ?_; rintro e w6 ⟨rfl, rfl⟩)
          rename_i K2 hK2
          obtain ⟨w6, hw6⟩ : ∃ w6, w6 = (wr.alloc (.cells #[.iface ty (.pointer (some ⟨bx, 0, none⟩))] 61)).alloc (.cells #[.string k] 9) := ⟨_, rfl⟩
          rw [← hw6]
          have hli := HLI.out
          have hk6 : ∀ K, Kep K wr w6 := fun K => by rw [hw6]; exact (Kep.alloc K wr _).trans (Kep.alloc K _ _)
          have hz6 : w6.heap.size = wr.heap.size + 2 := by rw [hw6]; simp
          have hv6 : w6.cell? ⟨wr.heap.size, 0, none⟩ = some (.iface ty (.pointer (some ⟨bx, 0, none⟩))) := by rw [hw6]; exact (Kep.alloc (fun _ => True) _ _).cell trivial (cell_one_new _ _ _ 0 _ rfl)
          have hs6 : w6.cell? ⟨wr.heap.size + 1, 0, none⟩ = some (.string k) := by
            rw [hw6]
            have := cell_one_new (wr.alloc (.cells #[.iface ty (.pointer (some ⟨bx, 0, none⟩))] 61)) (.string k) 9 0 _ rfl
            rwa [World.size_alloc] at this
          have hDl : ∀ D ∈ Ds, D < wr.heap.size := fun D hD => (Array.getElem?_eq_some_iff.1 (hli.df D hD).2.2).1
          have hli6 := hli.kept hJ (by omega) (B2 := wr.heap.size) hli.st.kep.size hDl (hk6 _)
          have hzz := hli.st.kep.size
          have hbr := (HBT.out M' w6 hli6.st).1
          have hsq := HSQ.out w6 wr.heap.size (wr.heap.size + 1) hbr hv6 hs6
          have hbz := hb1.size
          clear hw6 HSQ HLI hv6 hs6 hvj hk2 hk5
          refine wpIn_wide.1 (range_law (n := n) (gf := 43) (lb := #[.pointer (some ⟨wr.heap.size, 0, none⟩), .pointer (some ⟨wr.heap.size + 1, 0, none⟩)]) rfl (enters_of Try.func43 (by kernel_rfl) rfl) hsq ?lt (fun _ => rfl)
            (fun pre M1 W' => LI J M W1 ((List.range' i j).flatMap X ++ pre) M1 Ds W') (fun c pre M1 W' => c = .ret ∧ LI Jx M W1 ((List.range' i j).flatMap X ++ pre) M1 Ds W')
            (fun pre M1 W2 W3 h2 hk => h2.kept hJ (by omega) (by omega) (fun D hD => by have := hDl D hD; omega) hk)
            (fun c pre M1 W2 W3 h2 hk => ⟨h2.1, h2.2.kept hJx (by omega) (by omega) (fun D hD => by have := hDl D hD; omega) hk⟩)
            M' ?own (by rw [List.append_nil]; exact hli6)
            (fun x => { tmps := #[.func (.yield l) #[] #[], .pointer (some ⟨b1, 0, none⟩), .pointer (some ⟨b2, 0, none⟩), .pointer (some ⟨W.heap.size, 0, none⟩), .pointer none, .bool false, .pointer (some ⟨b, 0, none⟩), undef, .iface ty (.pointer (some ⟨bx, 0, none⟩)), .pointer (some ⟨x.1, 0, none⟩),
              .tuple #[.pointer none, .bool false], .iface 66 (.pointer (some ⟨b, 0, none⟩)), .tuple #[.pointer none, .bool false], .pointer none, .bool false, .bool false, undef, undef, undef, .iface 66 (.pointer (some ⟨b, 0, none⟩)), .pointer (some ⟨b, 0, none⟩),
              .pointer (some ⟨b, 0, none⟩), .pointer (some ⟨b, 0, none⟩), .pointer (some ⟨b, 1, none⟩), .slice a2 cn d2, .pointer (some ⟨b, 0, none⟩), .string k, .int .i64 (i : Int), .slice (some ⟨bb, off, none⟩) nn cc, .int .i64 (nn : Int), .int .i64 (j : Int), .bool true, .pointer (some ⟨bb, off + j, none⟩), .iface ty (.pointer (some ⟨bx, 0, none⟩)), .iface ty (.pointer (some ⟨bx, 0, none⟩)), .string k,
              .func (.func 43) #[] #[.pointer (some ⟨wr.heap.size, 0, none⟩), .pointer (some ⟨wr.heap.size + 1, 0, none⟩)], .pointer (some ⟨x.1, 0, none⟩), undef, undef, undef, undef, u42], defers := [] }) ?assign ?body ?done ?stop)
          case lt =>
            rintro q (h2 | h2 | h2)
            · have := hbr.size; omega
            · omega
            · omega
          case own =>
            intro q hq
            have hql := hli.st.lt q hq
            refine ⟨?_, by omega⟩
            rintro (h2 | h2 | h2)
            · exact (hM q (hli.st.own q (by omega) hq)).1 (.inl h2)
            · omega
            · omega
          case assign =>
            intro m l' x W2 K hK
            dsimp only [encL]
            gi_wp2
            exact hK
          case body =>
            rintro m l' pre x M1 W2 hl2 hpre
            obtain ⟨_, _, hk5⟩ := HBT.out M1 W2 hl2.st
            obtain ⟨fn, tmps, assign, body, hy, hr⟩ := hY (m - 1) ((List.range' i j).flatMap X ++ pre) x M1 W2 hl2.j (by rw [List.append_assoc]; exact pre_child hlt hpre)
            dsimp only [encL] at hy
            gi_wp2
            refine ⟨fun h => (by cases h), ?_⟩
            refine RoundIn.mono (F := Fence.wide.inRound l') hr ?_
            rintro e W3 ⟨M3, hst3, (⟨rfl, hj3⟩ | ⟨rfl, hj3⟩)⟩
            · gi_wp2
              exact ⟨M3, hst3, hl2.step hst3 (by rw [← List.append_assoc]; exact hj3)⟩
            · gi_wp2
              exact ⟨M3, hst3, rfl, hl2.step hst3 (by rw [← List.append_assoc]; exact hj3)⟩
          case done =>
            rintro D M1 W2 hD hMD hl2 hdef
            have hj8 : j < 8 := by have := HCN.out; have := HL.out; omega
            refine hK2 _ _ ?_
            go_wp2
            have ej : ((j + 1 : Nat) : Int) = (j : Int) + 1 := by omega
            refine ⟨⟨j + 1, M1, D :: Ds, _, _, _, _, _, _, _, _, by omega, ⟨by rw [snoc_child]; exact hl2.j, hl2.st, List.nodup_cons.2 ⟨fun h2 => by have := hDl D h2; omega, hl2.nd⟩, ?_⟩, by rw [ej]; rfl⟩, ?_⟩
            · intro E hE
              rcases List.mem_cons.1 hE with rfl | hE
              · exact ⟨by omega, hMD, hdef⟩
              · exact hl2.df E hE
            · simp [intOf]
              omega
          case stop =>
            rintro D c pre M1 W2 hD hMD hpre ⟨rfl, hl2⟩ hdef
            refine wpIn_wide.2 ?_
            go_wp2
            refine leaves_marks (D :: Ds) W2 (List.nodup_cons.2 ⟨fun h2 => by have := hDl D h2; omega, hl2.nd⟩) ?_ (fun W' hk => ⟨_, results_none rfl _ _ _, ⟨_, rfl⟩, M1, .inr ⟨_, pre_child hlt hpre, hJx _ _ _ _ hl2.j (hk.mono fun q _ h2 h3 => ?_)⟩⟩)
            · intro E hE
              rcases List.mem_cons.1 hE with rfl | hE
              · exact hdef
              · exact (hl2.df E hE).2.2
            · rcases List.mem_cons.1 h3 with rfl | h3
              · rcases h2 with h2 | h2
                · omega
                · exact hMD h2
              · obtain ⟨e1, e2, _⟩ := hl2.df q h3
                rcases h2 with h2 | h2
                · omega
                · exact e2 h2
        · have hltI : ¬ (j : Int) < (nn : Int) := by omega
          obtain rfl : j = nn := by omega
          go_wp2
          refine leaves_marks Ds wr hli.nd (fun D hD => (hli.df D hD).2.2) (fun W' hk => ⟨_, results_none rfl _ _ _, ⟨_, rfl⟩, M', .inl (hJ _ _ _ _ hli.j (hk.mono fun q _ h2 h3 => ?_))⟩)
          obtain ⟨e1, e2, _⟩ := hli.df q h3
          rcases h2 with h2 | h2
          · omega
          · exact e2 h2
    | _ => exact h5.elim

/-- The leaves that the iterator tells, whatever node it begins at. -/
theorem leaves_seq (wT : World) (k : ByteArray) : ∀ {h : Nat} {lo hi : Option ByteArray} {t : T} {v : Value}, Nd wT h v t → Val h lo hi t → t.sz ≤ 8 →
    ∃ xs : List (Nat × List KV), xs.map (·.2) = lvsOf k h t ∧ (∀ x ∈ xs, Lf wT x.1 x.2) ∧ ∀ w b1 b2, Below wT.heap.size wT w → w.cell? ⟨b1, 0, none⟩ = some v → w.cell? ⟨b2, 0, none⟩ = some (.string k) →
      Seq Try.prog 43 #[.pointer (some ⟨b1, 0, none⟩), .pointer (some ⟨b2, 0, none⟩)] encL (fun k => k < wT.heap.size ∨ k = b1 ∨ k = b2) xs w
  | 0, _, _, .leaf ps, v, hn, _, _ => by
    obtain ⟨b, rfl, hl⟩ := hn
    refine ⟨[(b, ps)], rfl, ?_, fun w b1 b2 _ c1 _ => leaves_leaf _ b b1 b2 ps w c1⟩
    intro x hx
    rw [List.mem_singleton] at hx
    subst hx
    exact hl
  | h + 1, lo, hi, .inner bs cs, v, hn, hv, hz => by
    obtain ⟨b, rfl, a1, d1, a2, d2, vs, q1, q2, q3, q4⟩ := hn
    have hlen := hv.1.len
    have hvl := q4.len
    have ih : ∀ j, ∃ xs : List (Nat × List KV), ∀ (hj : j < vs.length) (hj2 : j < cs.length), xs.map (·.2) = lvsOf k h cs[j] ∧ (∀ x ∈ xs, Lf wT x.1 x.2) ∧ ∀ w b1 b2, Below wT.heap.size wT w → w.cell? ⟨b1, 0, none⟩ = some vs[j] → w.cell? ⟨b2, 0, none⟩ = some (.string k) →
        Seq Try.prog 43 #[.pointer (some ⟨b1, 0, none⟩), .pointer (some ⟨b2, 0, none⟩)] encL (fun k => k < wT.heap.size ∨ k = b1 ∨ k = b2) xs w := by
      intro j
      by_cases hj : j < vs.length
      · have hj2 : j < cs.length := by omega
        obtain ⟨l2, r2, hc⟩ := hv.1.each cs[j] (List.getElem_mem hj2)
        obtain ⟨xs, hx⟩ := leaves_seq wT k (q4.get hj hj2) hc (hv.2 cs[j] (List.getElem_mem hj2)).2
        exact ⟨xs, fun _ _ => hx⟩
      · exact ⟨[], fun h => absurd h hj⟩
    have hX := fun j => Classical.choose_spec (ih j)
    generalize hXe : (fun j => Classical.choose (ih j)) = X at hX
    have hX' : ∀ j (hj : j < vs.length) (hj2 : j < cs.length), (X j).map (·.2) = lvsOf k h cs[j] ∧ (∀ x ∈ X j, Lf wT x.1 x.2) ∧ ∀ w b1 b2, Below wT.heap.size wT w → w.cell? ⟨b1, 0, none⟩ = some vs[j] → w.cell? ⟨b2, 0, none⟩ = some (.string k) →
        Seq Try.prog 43 #[.pointer (some ⟨b1, 0, none⟩), .pointer (some ⟨b2, 0, none⟩)] encL (fun k => k < wT.heap.size ∨ k = b1 ∨ k = b2) (X j) w := fun j => by
      have := Classical.choose_spec (ih j)
      rw [← hXe]
      exact this
    have hple := pl_le bs k
    refine ⟨(List.range' (pl bs k) (cs.length - pl bs k)).flatMap X, ?_, ?_, ?_⟩
    · exact range_drop (g := lvsOf k h) (fun j hj => (hX' j (by omega) hj).1) (by omega)
    · intro x hx
      obtain ⟨j, hj, hx⟩ := List.mem_flatMap.1 hx
      rw [List.mem_range'_1] at hj
      exact (hX' j (by omega) (by omega)).2.1 x hx
    · intro w b1 b2 hb c1 c2
      exact leaves_inner wT h b b1 b2 bs cs k a1 a2 d1 d2 vs X w hb q1 q2 q3 q4 (Row.rise (fun _ _ _ h => Val.lt h) hv.1).1 hlen hz c1 c2 (fun j hj w' b1' b2' => (hX' j hj (by omega)).2.2 w' b1' b2')
  | 0, _, _, .inner _ _, _, hn, _, _ => hn.elim
  | _ + 1, _, _, .leaf _, _, hn, _, _ => hn.elim
end Go.Proofs.Ytpophalhmjchkaa

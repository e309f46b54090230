/-
  slices.Chunk of bytes, 252 each, as an iterator.
-/
import Derived.Test.YtpmjkgpmidejoaaRun09
import Derived.Test.YtpmjkgpmidejoaaRun12
namespace Go.Proofs.Ytpmjkgpmidejoaa
open Go.RowKit Go.Shelf
open Al (Seq Stp Kep Stab)

attribute [local go_sem] Oper.semAt_some

/-- How few units hold n bytes. -/
def nsec (n : Nat) : Nat := (n + 251) / 252
/-- The j-th piece of a slice of bytes. -/
def pcv (b off n : Nat) (j : Nat) : Value := .slice (some ⟨b, off + 252 * j, none⟩) (min 252 (n - 252 * j)) (min 252 (n - 252 * j))

theorem range_pre {m K : Nat} (h : m ≤ K) : List.range m <+: List.range K := by
  rw [show List.range m = (List.range K).take m from by rw [List.take_range, Nat.min_eq_left h]]
  exact List.take_prefix _ _
theorem chunk_any (b off n cap : Nat) (w : World) :
    Calls Try.prog 73 #[.slice (some ⟨b, off, none⟩) n cap, .int .i64 252] w fun e w' => e = .returned (.func (.func 86) #[] #[.pointer (some ⟨w.heap.size, 0, none⟩), .pointer (some ⟨w.heap.size + 1, 0, none⟩)]) ∧ w' = (w.alloc (.cells #[.slice (some ⟨b, off, none⟩) n cap] 38)).alloc (.cells #[.int .i64 252] 3) := by
  go_enter Try.func73, Try.ntmps73
  go_wp2
  go_ret
  exact ⟨rfl, by simp⟩

theorem slice_mid (b off n c i j r : Nat) (h1 : i + r = j) (hr : 0 < r) (h2 : j ≤ c) (wx : World) : (Instr.slice 38 (.slice (some ⟨b, off, none⟩) n c) (some (.int .i64 (i : Int))) (some (.int .i64 (j : Int))) (some (.int .i64 (j : Int)))).run Try.prog wx = .ok (.slice (some ⟨b, off + i, none⟩) r r) wx := by
  obtain ⟨i0, hi, hz0, hz1, hz2⟩ := info_parts info5
  have e1 : j - i = r := by omega
  simp [Instr.slice, run_underlying Try.underlying38, Instr.sliceBounds, run_sliceBound, sizeOf, typeInfo, hi, hz1, (by omega : (j : Int) ≤ (c : Int)), (by omega : (i : Int) ≤ (j : Int)), e1, Addr.add]
  rw [if_neg (by omega)]
  split
  · rename_i h; subst h; rfl
  · rfl

set_option maxRecDepth 100000 in
set_option maxHeartbeats 4000000 in
theorem chunk_seq (b off n cap bs : Nat) (w : World) (hn : n ≤ 2000000) (hcap : n ≤ cap) (c1 : w.cell? ⟨bs, 0, none⟩ = some (.slice (some ⟨b, off, none⟩) n cap)) (c2 : w.cell? ⟨bs + 1, 0, none⟩ = some (.int .i64 252)) :
    Seq Try.prog 86 #[.pointer (some ⟨bs, 0, none⟩), .pointer (some ⟨bs + 1, 0, none⟩)] (fun j : Nat => #[pcv b off n j]) (fun k => k = bs ∨ k = bs + 1) (List.range (nsec n)) w := by
  intro m0 l J Jx M X W hR hM hX hJ hJx hY h0
  have hcb1 := hR.cell (.inl rfl) c1
  have hcb2 := hR.cell (.inr rfl) c2
  have HB : Hid (∀ M' w', Stp M W M' w' → w'.cell? ⟨bs, 0, none⟩ = some (.slice (some ⟨b, off, none⟩) n cap) ∧ w'.cell? ⟨bs + 1, 0, none⟩ = some (.int .i64 252)) := (by
    intro M' w' hst
    exact ⟨hst.kep.cell (fun h => (hM bs h).1 (.inl rfl)) hcb1, hst.kep.cell (fun h => (hM (bs + 1) h).1 (.inr rfl)) hcb2⟩)
  have hst0 : Stp M W M W := Stp.refl fun k hk => (hM k hk).2
  have HI : Hid (J [] M W ∧ Stp M W M W) := ⟨h0, hst0⟩
  have HJ : Hid (∀ pre M' W', J pre M' W' → Stp M W M' W' → J pre M' W'.drew ∧ Stp M W M' W'.drew) := (fun pre M' W' h2 h3 => ⟨hJ _ _ _ _ h2 (Kep.drew _ _), h3.trans ⟨Kep.drew _ _, fun _ _ h => h, h3.lt⟩⟩)
  obtain ⟨K, hK⟩ : ∃ K, K = nsec n := ⟨_, rfl⟩
  have hK1 : 252 * K < n + 252 := by rw [hK]; unfold nsec; omega
  have hK2 : n ≤ 252 * K := by rw [hK]; unfold nsec; omega
  rw [← hK] at hY ⊢
  clear hst0 h0 hcb1 hcb2 c1 c2 hR hM hX hJ hJx hK
  refine callsIn_of_wp Try.func86 rfl trivial ?_ rfl
  simp only [Try.ntmps86, List.size_toArray, List.length_cons, List.length_nil, Nat.reduceAdd, Nat.reduceSub, Array.replicate_succ, Array.replicate_zero, List.push_toArray, List.append_toArray, List.nil_append, List.cons_append]
  gi_wp2
  gi_loopw [4] (fun i wr => ∃ (m : Nat) (M' : Nat → Prop), m ≤ K ∧ i = .int .i64 ((252 * m : Nat) : Int) ∧ J (List.range m) M' wr ∧ Stp M W M' wr)
    (fun i _ => 252 * K + 252 - (intOf i).toNat)
  case atStart => exact ⟨0, M, Nat.zero_le _, rfl, HI.out.1, HI.out.2⟩
  case round =>
    obtain ⟨m, M', hm, rfl, hj, hsp⟩ := hrel
    clear HI
    obtain ⟨c1, c2⟩ := HB.out M' wr hsp
    by_cases hlt : m < K
    · obtain ⟨hjd, hspd⟩ := HJ.out _ _ _ hj hsp
      obtain ⟨fn, tmps, assign, body, hy, hr⟩ := hY (m0 - 1) (List.range m) m M' wr.drew hjd (by rw [← List.range_succ]; exact range_pre hlt)
      obtain ⟨i, hi⟩ : ∃ i, i = 252 * m := ⟨_, rfl⟩
      obtain ⟨r, hr0⟩ : ∃ r, r = n - i := ⟨_, rfl⟩
      obtain ⟨q, hq⟩ : ∃ q, q = min 252 r := ⟨_, rfl⟩
      obtain ⟨i2, hi2⟩ : ∃ i2, i2 = i + q := ⟨_, rfl⟩
      rw [pcv, ← hi, ← hr0, ← hq] at hy
      rw [← hi]
      have hiN : (i : Int) < (n : Int) := by omega
      have hs1 : ∀ wx, (Instr.slice 38 (.slice (some ⟨b, off, none⟩) n cap) (some (.int .i64 (i : Int))) none none).run Try.prog wx = .ok (.slice (some ⟨b, off + i, none⟩) r (cap - i)) wx := fun wx => by
        have := slice_lo b off n cap i (by omega) (by omega) wx
        rw [← hr0] at this
        exact this
      have hs2 : ∀ wx, (Instr.slice 38 (.slice (some ⟨b, off, none⟩) n cap) (some (.int .i64 (i : Int))) (some (.int .i64 (i2 : Int))) (some (.int .i64 (i2 : Int)))).run Try.prog wx = .ok (.slice (some ⟨b, off + i, none⟩) q q) wx := fun wx => slice_mid b off n cap i i2 q hi2.symm (by omega) (by omega) wx
      have hmin : min (252 : Int) (r : Int) = (q : Int) := by omega
      have hi2b : (i : Int) + (q : Int) = (i2 : Int) := by omega
      have HH : Hid (i = 252 * m ∧ J (List.range m) M' wr ∧ Stp M W M' wr.drew) := ⟨hi, hj, hspd⟩
      have hi2s : i2 ≤ 2000000 := by omega
      clear hi hr0 hq hi2 hj hsp hjd hspd
      have mixed : Try.prog.follows .mixedOrders = true := by kernel_rfl
      gi_wp2
      gi_region_o
      all_goals gi_wp2
      all_goals
        (refine ⟨fun h => (by cases h), ?_⟩
         refine hr.mono ?_
         rintro e W3 ⟨M3, (⟨hs3, rfl, hj3⟩ | ⟨hs3, rfl, hj3⟩)⟩
         · obtain ⟨c3, c4⟩ := HB.out M3 W3 (HH.out.2.2.trans hs3)
           gi_wp2
           go_roundw
           case rel => exact ⟨m + 1, M3, by omega, by have := HH.out.1; go_num, by rw [List.range_succ]; exact hj3, HH.out.2.2.trans hs3⟩
           case measure => have := HH.out.1; simp [intOf]; omega
         · gi_wp2
           refine bodyPost_ret (results_none rfl _ _ _) rfl ?_
           exact ⟨⟨_, rfl⟩, M3, .inr ⟨_, by rw [← List.range_succ]; exact range_pre (by omega), hj3⟩⟩)
    · obtain rfl : m = K := by omega
      have hiN : ¬ ((252 * m : Nat) : Int) < (n : Int) := by omega
      gi_wp2
      go_end0
      exact ⟨⟨_, rfl⟩, M', .inl hj⟩
end Go.Proofs.Ytpmjkgpmidejoaa
/-
  Take by its contract.
-/
namespace Go.Proofs.Ytpmjkgpmidejoaa.Al
open Go.RowKit Go.Shelf

attribute [local go_sem] Oper.semAt_some

/-- What Take tells, and what it leaves. -/
def takeF (L : List Bool) (k : Int) : Int × Int × List Bool :=
  if k < 1 then (0, 1, L) else match takeL k.toNat (runsL L) with
    | none => (0, 60, L)
    | some x => ((x.1 : Nat), 0, putB L x.1 k.toNat true)
theorem takeF_len (L : List Bool) (k : Int) : (takeF L k).2.2.length = L.length := by
  unfold takeF
  by_cases h : k < 1
  · rw [if_pos h]
  · rw [if_neg h]
    cases hx : takeL k.toNat (runsL L) with
    | none => rfl
    | some x => exact putB_len _ (take_some (by omega) hx).1.1
theorem take_pre {k : Nat} {pre xs : List (Nat × Nat)} {x : Nat × Nat} (h : pre ++ [x] <+: xs) (hp : ∀ y ∈ pre, ¬ k ≤ y.2) (hx : k ≤ x.2) : takeL k xs = some x := by
  obtain ⟨r, rfl⟩ := h
  rw [takeL, List.append_assoc, List.find?_append, List.find?_eq_none.2 (by simpa using hp)]
  simp [hx]
theorem take_all {k : Nat} {xs : List (Nat × Nat)} (hp : ∀ y ∈ xs, ¬ k ≤ y.2) : takeL k xs = none := by
  rw [takeL, List.find?_eq_none]
  simpa using hp

theorem results_two {fn : Func} {p q : Tmp} (h : fn.results = #[.cell p 3, .cell q 26]) (tmps : Array Value) (w : World) (b c : Nat) (v u : Value) (hp : tmps.getD p undef = .pointer (some ⟨b, 0, none⟩)) (hq : tmps.getD q undef = .pointer (some ⟨c, 0, none⟩)) (hc : w.cell? ⟨b, 0, none⟩ = some v) (hd : w.cell? ⟨c, 0, none⟩ = some u) : (results fn tmps).run Try.prog w = .ok (.tuple #[v, u]) w := by
  have hp' : tmps[p]?.getD undef = .pointer (some ⟨b, 0, none⟩) := by simpa using hp
  have hq' : tmps[q]?.getD undef = .pointer (some ⟨c, 0, none⟩) := by simpa using hq
  simp [results, h, hp', hq', asAddr, loadVar, isAgg, run_underlying Try.underlying3, run_underlying Try.underlying26, go_sem, hc, hd]

/-- What Take holds in memory. -/
structure TB (w : World) (b : Nat) (k v0 v1 : Int) (L : List Bool) (W : World) : Prop where
  s : W.heap[w.heap.size]? = some (.cells #[.pointer (some ⟨b, 0, none⟩)] 85 (0, 0))
  k : W.heap[w.heap.size + 1]? = some (.cells #[.int .i64 k] 3 (0, 0))
  r0 : W.heap[w.heap.size + 2]? = some (.cells #[.int .i64 v0] 3 (0, 0))
  r1 : W.heap[w.heap.size + 3]? = some (.cells #[.int .i64 v1] 26 (0, 0))
  sp : Spc W b L
  lt : b < w.heap.size
  old : Kep (fun q => q ≠ b) w W
theorem TB.kept {w : World} {b : Nat} {k v0 v1 : Int} {L : List Bool} {W W' : World} (h : TB w b k v0 v1 L W) {K : Nat → Prop} (hk : Kep K W W') (hK : ∀ q, q < w.heap.size + 4 → K q) : TB w b k v0 v1 L W' := by
  have hlt := h.lt
  refine ⟨(hk.keep _ (Array.getElem?_eq_some_iff.1 h.s).1 (hK _ (by omega))).trans h.s, (hk.keep _ (Array.getElem?_eq_some_iff.1 h.k).1 (hK _ (by omega))).trans h.k, (hk.keep _ (Array.getElem?_eq_some_iff.1 h.r0).1 (hK _ (by omega))).trans h.r0, (hk.keep _ (Array.getElem?_eq_some_iff.1 h.r1).1 (hK _ (by omega))).trans h.r1,
    h.sp.kept (hk.keep _ h.sp.lt (hK _ (by omega))), hlt, ?_⟩
  exact ⟨hk.os.trans h.old.os, hk.tape.trans h.old.tape, hk.output.trans h.old.output, Nat.le_trans h.old.size hk.size, fun q h1 h2 => (hk.keep q (Nat.lt_of_lt_of_le h1 h.old.size) (hK _ (by omega))).trans (h.old.keep q h1 h2)⟩
theorem TB.setR0 {w : World} {b : Nat} {k v0 v1 : Int} {L : List Bool} {W : World} (h : TB w b k v0 v1 L W) (v : Int) : TB w b k v v1 L (W.setCell ⟨w.heap.size + 2, 0, none⟩ (.int .i64 v)) := by
  have hlt := h.lt
  exact ⟨box_other h.s (by omega) _, box_other h.k (by omega) _, box_set h.r0 _, box_other h.r1 (by omega) _, h.sp.kept (Below.heap_setCell W _ _ b (by show b ≠ w.heap.size + 2; omega)), hlt,
    ⟨h.old.os, h.old.tape, h.old.output, by simpa [World.setCell] using h.old.size, fun q h1 h2 => (Below.heap_setCell W _ _ q (by show q ≠ w.heap.size + 2; omega)).trans (h.old.keep q h1 h2)⟩⟩
theorem TB.setR1 {w : World} {b : Nat} {k v0 v1 : Int} {L : List Bool} {W : World} (h : TB w b k v0 v1 L W) (v : Int) : TB w b k v0 v L (W.setCell ⟨w.heap.size + 3, 0, none⟩ (.int .i64 v)) := by
  have hlt := h.lt
  exact ⟨box_other h.s (by omega) _, box_other h.k (by omega) _, box_other h.r0 (by omega) _, box_set h.r1 _, h.sp.kept (Below.heap_setCell W _ _ b (by show b ≠ w.heap.size + 3; omega)), hlt,
    ⟨h.old.os, h.old.tape, h.old.output, by simpa [World.setCell] using h.old.size, fun q h1 h2 => (Below.heap_setCell W _ _ q (by show q ≠ w.heap.size + 3; omega)).trans (h.old.keep q h1 h2)⟩⟩
theorem TB.turned {w : World} {b : Nat} {k v0 v1 : Int} {L L' : List Bool} {W W' : World} (h : TB w b k v0 v1 L W) (hk : Kep (fun q => q ≠ b) W W') (hs : Spc W' b L') : TB w b k v0 v1 L' W' := by
  have hlt := h.lt
  exact ⟨(hk.keep _ (Array.getElem?_eq_some_iff.1 h.s).1 (by omega)).trans h.s, (hk.keep _ (Array.getElem?_eq_some_iff.1 h.k).1 (by omega)).trans h.k, (hk.keep _ (Array.getElem?_eq_some_iff.1 h.r0).1 (by omega)).trans h.r0, (hk.keep _ (Array.getElem?_eq_some_iff.1 h.r1).1 (by omega)).trans h.r1, hs, hlt, h.old.trans hk⟩
theorem TB.made (w : World) (b : Nat) (k : Int) (L : List Bool) (h : Spc w b L) : TB w b k 0 0 L ((((w.alloc (.cells #[.pointer (some ⟨b, 0, none⟩)] 85)).alloc (.cells #[.int .i64 k] 3)).alloc (.cells #[.int .i64 0] 3)).alloc (.cells #[.int .i64 0] 26)) := by
  have hb : Below w.heap.size w ((((w.alloc (.cells #[.pointer (some ⟨b, 0, none⟩)] 85)).alloc (.cells #[.int .i64 k] 3)).alloc (.cells #[.int .i64 0] 3)).alloc (.cells #[.int .i64 0] 26)) :=
    ((((Below.refl _ w).alloc (Nat.le_refl _) _).alloc (by simp) _).alloc (by simp; omega) _).alloc (by simp; omega) _
  refine ⟨?_, ?_, ?_, ?_, h.below hb, h.lt, Kep.of_below hb (fun _ h _ => h)⟩
  · rw [Below.heap_alloc _ _ _ (by simp; omega), Below.heap_alloc _ _ _ (by simp; omega), Below.heap_alloc _ _ _ (by simp)]
    exact heap_alloc_new w _
  · rw [Below.heap_alloc _ _ _ (by simp), Below.heap_alloc _ _ _ (by simp)]
    have := heap_alloc_new (w.alloc (.cells #[.pointer (some ⟨b, 0, none⟩)] 85)) (.cells #[.int .i64 k] 3)
    rwa [World.size_alloc] at this
  · rw [Below.heap_alloc _ _ _ (by simp)]
    have := heap_alloc_new ((w.alloc (.cells #[.pointer (some ⟨b, 0, none⟩)] 85)).alloc (.cells #[.int .i64 k] 3)) (.cells #[.int .i64 0] 3)
    rwa [World.size_alloc, World.size_alloc] at this
  · have := heap_alloc_new (((w.alloc (.cells #[.pointer (some ⟨b, 0, none⟩)] 85)).alloc (.cells #[.int .i64 k] 3)).alloc (.cells #[.int .i64 0] 3)) (.cells #[.int .i64 0] 26)
    rwa [World.size_alloc, World.size_alloc, World.size_alloc] at this

/-- None of the runs has k units. -/
def smallR (k : Nat) (xs : List (Nat × Nat)) : Prop := ∀ y ∈ xs, ¬ k ≤ y.2
/-- The end of Take. -/
theorem take_end {w W : World} {b n : Nat} {k v0 v1 : Int} {L' : List Bool} {tmps : Array Value} {fn : Func} (Ds : List Nat) (hr : fn.results = #[.cell 4 3, .cell 5 26]) (hp : tmps.getD 4 undef = .pointer (some ⟨w.heap.size + 2, 0, none⟩)) (hq : tmps.getD 5 undef = .pointer (some ⟨w.heap.size + 3, 0, none⟩))
    (h : TB w b k v0 v1 L' W) (hn : Ds.Nodup) (hd : ∀ D ∈ Ds, W.heap[D]? = some (.deferred (some []))) (hD : ∀ D ∈ Ds, w.heap.size + 4 ≤ D) :
    LeavesInM Fence.wide n Try.prog fn tmps (fun e w' => e = .returned (.tuple #[.int .i64 v0, .int .i64 v1]) ∧ Spc w' b L' ∧ Kep (fun q => q ≠ b) w w') (Ds.map fun D => { target := .collected D, args := #[] }) .returning W := by
  refine leaves_marks Ds _ hn hd (fun W' hk => ?_)
  have h2 := h.kept hk (fun q hq h3 => by have := hD q h3; omega)
  exact ⟨_, results_two hr tmps W' _ _ _ _ hp hq (box_cell h2.r0) (box_cell h2.r1), rfl, h2.sp, h2.old⟩

set_option maxRecDepth 100000 in
set_option maxHeartbeats 4000000 in
theorem take_any (w : World) (b : Nat) (L : List Bool) (k : Int) (h : Spc w b L) :
    Calls Try.prog 41 #[.pointer (some ⟨b, 0, none⟩), .int .i64 k] w fun e w' => e = .returned (.tuple #[.int .i64 (takeF L k).1, .int .i64 (takeF L k).2.1]) ∧ Spc w' b (takeF L k).2.2 ∧ Kep (fun q => q ≠ b) w w' := by
  have htb := TB.made w b k L h
  have hlt := h.lt
  obtain ⟨T, hT⟩ : ∃ T, T = takeF L k := ⟨_, rfl⟩
  rw [← hT]
  have HTF : Hid (T = takeF L k) := hT
  clear hT
  refine (callsIn_wide (n := 0)).1 ?_
  refine callsIn_of_wp_marks Try.func41 rfl trivial ?_ rfl
  simp only [Try.ntmps41, List.size_toArray, List.length_cons, List.length_nil, Nat.reduceAdd, Nat.reduceSub, Array.replicate_succ, Array.replicate_zero, List.push_toArray, List.append_toArray, List.nil_append, List.cons_append]
  refine wpIn_wide.2 ?_
  obtain ⟨W, hW⟩ : ∃ W, W = ((((w.alloc (.cells #[.pointer (some ⟨b, 0, none⟩)] 85)).alloc (.cells #[.int .i64 k] 3)).alloc (.cells #[.int .i64 0] 3)).alloc (.cells #[.int .i64 0] 26)) := ⟨_, rfl⟩
  rw [← hW] at htb
  have hz : W.heap.size = w.heap.size + 4 := by rw [hW]; simp
  go_upto_region 1 with fail
  rw [← hW, show w.heap.size + 1 + 1 + 1 = w.heap.size + 3 from rfl, show w.heap.size + 1 + 1 = w.heap.size + 2 from rfl]
  clear hW
  have i0 := box_cell htb.s
  have i1 := box_cell htb.k
  have i2 := box_cell htb.r0
  have i3 := box_cell htb.r1
  have f2 := box_free htb.r0
  have f3 := box_free htb.r1
  by_cases hk : k < 1
  · have hF : takeF L k = (0, 1, L) := by rw [takeF, if_pos hk]
    have HT : Hid (TB w b k 0 0 L W ∧ T = (0, 1, L)) := ⟨htb, HTF.out.trans hF⟩
    clear htb hF
    go_wp2
    rw [HT.out.2]
    exact take_end [] rfl rfl rfl ((HT.out.1.setR0 0).setR1 1) List.nodup_nil (by simp) (by simp)
  · obtain ⟨k0, rfl⟩ : ∃ k0 : Nat, k = (k0 : Int) := ⟨k.toNat, by omega⟩
    have hk1 : 1 ≤ k0 := by omega
    have HF : Hid (∀ o, takeL k0 (runsL L) = o → T = match o with | none => (0, 60, L) | some x => ((x.1 : Nat), 0, putB L x.1 k0 true)) := (by
      intro o ho
      rw [HTF.out, takeF, if_neg hk, Int.toNat_natCast, ho])
    have HT : Hid (TB w b (k0 : Int) 0 0 L W) := htb
    clear htb
    go_wp2_with (go_at_call 70; refine Calls.mono (runs_any b _) ?_; rintro e w5 ⟨rfl, rfl⟩)
    obtain ⟨W1, hW1⟩ : ∃ W1, W1 = W.alloc (.cells #[.pointer (some ⟨b, 0, none⟩)] 85) := ⟨_, rfl⟩
    have hp1 : W1.cell? ⟨W.heap.size, 0, none⟩ = some (.pointer (some ⟨b, 0, none⟩)) := by rw [hW1]; exact box_cell (heap_alloc_new W _)
    have ht1 : TB w b (k0 : Int) 0 0 L W1 := by rw [hW1]; exact HT.out.kept (Kep.alloc (fun _ => True) W _) (fun _ _ => trivial)
    have hz1 : W1.heap.size = w.heap.size + 5 := by rw [hW1]; simp [hz]
    rw [← hW1]
    have hsq := runs_seq b W.heap.size L W1 ht1.sp hp1
    clear hW1 hp1 i0 i1 i2 i3 f2 f3
    rw [hz] at hsq
    rename_i K hK
    refine wpIn_wide.1 (range_law (n := 0) (gf := 85) (lb := #[.pointer (some ⟨w.heap.size + 4, 0, none⟩)]) rfl (enters_of Try.func85 (by kernel_rfl) rfl) hsq ?lt (fun _ => rfl)
      (fun pre M W' => M = (fun q => q = w.heap.size + 2 ∨ q = w.heap.size + 3) ∧ TB w b (k0 : Int) 0 0 L W' ∧ smallR k0 pre) (fun c pre M W' => c = .ret ∧ TB w b (k0 : Int) T.1 T.2.1 T.2.2 W')
      (fun pre M W2 W3 h2 hk => ⟨h2.1, h2.2.1.kept hk (fun q hq => .inl (by omega)), h2.2.2⟩) (fun c pre M W2 W3 h2 hk => ⟨h2.1, h2.2.kept hk (fun q hq => .inl (by omega))⟩)
      (fun q => q = w.heap.size + 2 ∨ q = w.heap.size + 3) (fun q => q = b) ?own (by rintro q rfl; omega) ⟨rfl, ht1, by simp [smallR]⟩ ?act ?assign ?body ?done ?stop)
    case assign =>
      intro m l' x W2 K hK
      dsimp only [encR]
      gi_wp2
      exact hK
    case lt => rintro q (rfl | rfl) <;> omega
    case own => rintro q (rfl | rfl) <;> exact ⟨by rintro (h2 | h2) <;> omega, by omega⟩
    case stop =>
      rintro D c pre M1 W2 hD hMD hpre ⟨rfl, h2⟩ hdef
      refine wpIn_wide.2 ?_
      go_wp2
      exact take_end [D] rfl rfl rfl h2 (by simp) (by simpa using hdef) (by simp; omega)
    case body =>
      rintro m l' pre ⟨x, y⟩ M1 W2 ⟨rfl, h2, h3⟩ hpre
      have i0 := box_cell h2.s
      have i1 := box_cell h2.k
      have i2 := box_cell h2.r0
      have i3 := box_cell h2.r1
      have f2 := box_free h2.r0
      have f3 := box_free h2.r1
      have hmem := runs_mem (hpre.subset (by simp) : (x, y) ∈ runsL L)
      have HLT : Hid (∀ q, (q = w.heap.size + 2 ∨ q = w.heap.size + 3) → q < W2.heap.size) := (by
        rintro q (rfl | rfl)
        · exact (Array.getElem?_eq_some_iff.1 h2.r0).1
        · exact (Array.getElem?_eq_some_iff.1 h2.r1).1)
      by_cases hy : k0 ≤ y
      · have hyI : (k0 : Int) ≤ (y : Int) := by omega
        have hw : winP L k0 x := ⟨by have := hmem.2.1; dsimp only at this; omega, fun j hj => hmem.2.2 j (by dsimp only; omega)⟩
        have hF := HF.out _ (take_pre hpre h3 hy)
        dsimp only at hF
        have hmk := mark_any W2 b L (x : Int) (k0 : Int) h2.sp (by have h5 := hmem.2.1; have h6 := h2.sp.len; dsimp only at h5; omega)
        rw [win_turn hk1 hw, if_pos rfl, if_pos rfl, Int.toNat_natCast, Int.toNat_natCast] at hmk
        have HH : Hid (TB w b (k0 : Int) 0 0 L W2 ∧ T = (((x : Nat) : Int), (0 : Int), putB L x k0 true)) := ⟨h2, hF⟩
        have HC : Hid (∀ w5, Spc w5 b (putB L x k0 true) → Kep (fun q => q ≠ b) W2 w5 → w5.frozen? ⟨w.heap.size + 2, 0, none⟩ = false ∧ w5.frozen? ⟨w.heap.size + 3, 0, none⟩ = false ∧ w5.cell? ⟨w.heap.size + 2, 0, none⟩ = some (.int .i64 0) ∧ w5.cell? ⟨w.heap.size + 3, 0, none⟩ = some (.int .i64 0)) := (by
          intro w5 q1 q2
          have h5 := h2.turned q2 q1
          exact ⟨box_free h5.r0, box_free h5.r1, box_cell h5.r0, box_cell h5.r1⟩)
        clear hF hw h2 h3 hpre hmem hsq hk1 HF HT ht1
        gi_wp2_with (refine ⟨trivial, fun h => (by cases h), ?_⟩; gi_at_call 38; refine (CallsIn.inRound l' (callsIn_wide.2 hmk)).mono ?_; rintro e W3 ⟨rfl, q1, q2, q3⟩; obtain ⟨g2, g3, j2, j3⟩ := HC.out W3 q1 q2)
        refine ⟨fun q => (q = w.heap.size + 2 ∨ q = w.heap.size + 3) ∨ q = b, ⟨((q2.mono fun q _ h4 h5 => h4 (.inr h5)).trans (Kep.set W3 _ (fun h4 => h4 (.inl (.inl rfl))))).trans (Kep.set _ _ (fun h4 => h4 (.inl (.inr rfl)))), fun _ _ h4 => h4, ?_⟩, rfl, ?_⟩
        · rintro q (h4 | rfl)
          · have h5 := HLT.out q h4
            simpa [World.setCell, q3] using h5
          · have h5 := q1.lt
            simpa [World.setCell] using h5
        · rw [HH.out.2]
          exact ((HH.out.1.turned q2 q1).setR0 _).setR1 _
      · have hyI : ¬ (k0 : Int) ≤ (y : Int) := by omega
        have HH : Hid (TB w b (k0 : Int) 0 0 L W2 ∧ smallR k0 pre) := ⟨h2, h3⟩
        clear h2 h3 hpre hmem
        gi_wp2
        have hz3 : smallR k0 (pre ++ [(x, y)]) := by
          intro z hz
          rw [List.mem_append, List.mem_singleton] at hz
          rcases hz with hz | rfl
          · exact HH.out.2 z hz
          · exact hy
        exact ⟨_, Stp.refl HLT.out, rfl, HH.out.1, hz3⟩
    case done =>
      rintro D M1 W2 hD hMD ⟨rfl, h2, h3⟩ hdef
      have i2 := box_cell h2.r0
      have i3 := box_cell h2.r1
      have f2 := box_free h2.r0
      have f3 := box_free h2.r1
      have hF := HF.out _ (take_all h3)
      dsimp only at hF
      have HFF : Hid (T = (0, 60, L)) := hF
      clear hF
      refine hK _ _ ?_
      go_wp2
      rw [HFF.out]
      exact take_end [D] rfl rfl rfl ((h2.setR0 0).setR1 60) (by simp) (by
        intro E hE
        rw [List.mem_singleton] at hE
        subst hE
        exact box_other (box_other hdef (by omega) _) (by omega) _) (by simp; omega)
end Go.Proofs.Ytpmjkgpmidejoaa.Al

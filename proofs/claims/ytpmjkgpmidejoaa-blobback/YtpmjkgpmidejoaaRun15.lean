/-
  Package blob's small calls by their contracts: Sectors, turn, Drop, Free, holds.
-/
import Derived.Test.YtpmjkgpmidejoaaRun14
import Derived.Test.YtpmjkgpmidejoaaRun07
import Derived.BigRegion
import Derived.WalkMore
import Derived.Test.YtpmjkgpmidejoaaRun13
namespace Go.Proofs.Ytpmjkgpmidejoaa
open Go.RowKit
open Al (Spc Kep turnB putB)

/-- How few units hold so many bytes. -/
def secI (n : Int) : Int := if n ≤ 0 then 0 else (n - 1).tdiv 252 + 1
theorem sectors_any (n : Int) (w : World) (hn : n ≤ 9223372036854775807) : Calls Try.prog 28 #[.int .i64 n] w fun e w' => e = .returned (.int .i64 (secI n)) ∧ w = w' := by
  by_cases h : n ≤ 0
  · go_enter Try.func28, Try.ntmps28
    go_wp2
    go_ret
    exact ⟨ret_int (by rw [secI, if_pos h]), rfl⟩
  · have hd : (n - 1).tdiv 252 = (n - 1) / 252 := Int.tdiv_eq_ediv_of_nonneg (by omega)
    have h1 : 0 < n := by omega
    go_enter Try.func28, Try.ntmps28
    go_wp2
    go_ret
    exact ⟨ret_int (by rw [secI, if_neg (by omega), hd]), rfl⟩

theorem secI_bd (n : Int) (hn : n ≤ 9223372036854775807) : secI n ≤ 9223372036854775807 ∧ -9223372036854775808 ≤ secI n := by
  unfold secI
  split
  · omega
  · rw [Int.tdiv_eq_ediv_of_nonneg (by omega)]; omega
/-- Whether a Ref's units may be given back, and what is left then. -/
def giveR (L : List Bool) (st sz : Int) : Bool := (decide (st = 0) && decide (sz = 0)) || turnB L st (secI sz) true
def giveL (L : List Bool) (st sz : Int) : List Bool := if st = 0 ∧ sz = 0 then L else if turnB L st (secI sz) true then putB L st.toNat (secI sz).toNat false else L
/-- Whether they may be marked. -/
def markR (L : List Bool) (st sz : Int) : Bool := (decide (st = 0) && decide (sz = 0)) || turnB L st (secI sz) false
def markL (L : List Bool) (st sz : Int) : List Bool := if st = 0 ∧ sz = 0 then L else if turnB L st (secI sz) false then putB L st.toNat (secI sz).toNat true else L

abbrev rv (st sz : Int) : Value := .agg #[.int .i64 st, .int .i64 sz]

set_option maxHeartbeats 2000000 in
set_option maxRecDepth 20000 in
theorem turn_give (w : World) (s : Nat) (L : List Bool) (st sz : Int) (h : Spc w s L) (h1 : st ≤ 9223372036854775807) (h2 : sz ≤ 9223372036854775807) :
    Calls Try.prog 37 #[rv st sz, .func (.func 44) #[.pointer (some ⟨s, 0, none⟩)] #[]] w fun e w' =>
      e = .returned (.int .i64 (if giveR L st sz then 0 else 1)) ∧ Spc w' s (giveL L st sz) ∧ Kep (fun k => k ≠ s) w w' := by
  have hz : secI sz ≤ 9223372036854775807 ∧ -9223372036854775808 ≤ secI sz := secI_bd sz h2
  by_cases h0 : st = 0 ∧ sz = 0
  · obtain ⟨rfl, rfl⟩ := h0
    have HC : Hid (Spc w s L) := h
    clear h
    go_enter Try.func37, Try.ntmps37
    go_wp2
    go_ret
    exact ⟨rfl, HC.out.below ((Below.refl _ w).alloc (Nat.le_refl _) _), Kep.alloc _ _ _⟩
  · have hr : giveR L st sz = turnB L st (secI sz) true := by rw [giveR, (by simpa using h0 : (decide (st = 0) && decide (sz = 0)) = false), Bool.false_or]
    have hL : giveL L st sz = if turnB L st (secI sz) true then putB L st.toNat (secI sz).toNat false else L := by rw [giveL, if_neg h0]
    have hsec := fun w => sectors_any sz w h2
    have hg := Al.give_any (w.alloc (.cells #[.int .i64 st, .int .i64 sz] 40)).drew s L st (secI sz) ((h.below ((Below.refl _ w).alloc (Nat.le_refl _) _)).kept rfl) h1
    rw [← hr] at hL hg
    rw [← hL] at hg
    obtain ⟨v, hv⟩ : ∃ v : Int, v = (if giveR L st sz then 0 else 1) := ⟨_, rfl⟩
    rw [← hv] at hg ⊢
    obtain ⟨k, hk⟩ : ∃ k, k = secI sz := ⟨_, rfl⟩
    rw [← hk] at hsec hg
    have HG : Hid (Calls Try.prog 44 #[.pointer (some ⟨s, 0, none⟩), .int .i64 st, .int .i64 k] (w.alloc (.cells #[.int .i64 st, .int .i64 sz] 40)).drew fun e w' => e = .returned (.int .i64 v) ∧ Spc w' s (giveL L st sz) ∧ Kep (fun k => k ≠ s) w w') := hg.mono fun e w' q => ⟨q.1, q.2.1, ((Kep.alloc _ _ _).trans (Kep.drew _ _)).trans q.2.2.1⟩
    have HC : Hid (Spc w s L) := h
    clear hg hr hL hv hk h hz
    have h3 : st ≠ 0 ∨ (st = 0 ∧ sz ≠ 0) := by omega
    rcases h3 with h3 | ⟨rfl, h3⟩
    · go_enter Try.func37, Try.ntmps37
      go_wp2
      go_region_with (first
        | (go_at_call 28; refine Calls.mono (hsec _) ?_; rintro e w1 ⟨rfl, rfl⟩)
        | (go_at_call 44; refine Calls.mono HG.out ?_; rintro e w1 ⟨rfl, q1⟩))
      all_goals
        (go_wp2
         go_ret
         exact ⟨rfl, q1⟩)
    · go_enter Try.func37, Try.ntmps37
      go_wp2
      go_region_with (first
        | (go_at_call 28; refine Calls.mono (hsec _) ?_; rintro e w1 ⟨rfl, rfl⟩)
        | (go_at_call 44; refine Calls.mono HG.out ?_; rintro e w1 ⟨rfl, q1⟩))
      all_goals
        (go_wp2
         go_ret
         exact ⟨rfl, q1⟩)
end Go.Proofs.Ytpmjkgpmidejoaa
/-
  Package blob's sealAll by its contract: the sectors' bytes of the data.
-/
namespace Go.Proofs.Ytpmjkgpmidejoaa
open Go.RowKit Go.Shelf
open Al (Seq Stp Kep Stab range_law leaves_marks own_kep owns_lt box_cell box_free box_set)

attribute [local go_sem] Oper.semAt_some

/-- The j-th piece of the data. -/
def pcL (l : List UInt8) (j : Nat) : List UInt8 := (l.drop (252 * j)).take 252
theorem pcL_length (l : List UInt8) (j : Nat) : (pcL l j).length = min 252 (l.length - 252 * j) := by rw [pcL, List.length_take, List.length_drop]
/-- The bytes of the first k sectors that hold the data. -/
def sealsL (l : List UInt8) (k : Nat) : List UInt8 := (List.range k).flatMap fun j => sealL (pcL l j)
theorem sealsL_succ (l : List UInt8) (k : Nat) : sealsL l (k + 1) = sealsL l k ++ sealL (pcL l k) := by simp [sealsL, List.range_succ]
theorem sealsL_length (l : List UInt8) : ∀ k, (sealsL l k).length = 256 * k
  | 0 => rfl
  | k + 1 => by rw [sealsL_succ, List.length_append, sealsL_length l k, sealL_length (by rw [pcL_length]; omega)]; omega
theorem secI_nat (n : Nat) : secI (n : Int) = (nsec n : Int) := by
  unfold secI nsec
  split
  · omega
  · rw [Int.tdiv_eq_ediv_of_nonneg (by omega)]; omega

/-- The bytes that have come, in a row of one's own behind a box. -/
structure CS (w : World) (p : Nat) (l : List UInt8) (pre : List Nat) (M : Nat → Prop) (W : World) (v : Value) : Prop where
  m : ∀ q, M q ↔ (q = p ∨ v.ownBlock = some q)
  ne : v.ownBlock ≠ some p
  box : W.heap[p]? = some (.cells #[v] 38 (0, 0))
  row : Own W w.heap.size v (sealsL l pre.length)
  old : Below w.heap.size w W
theorem CS.kept {w : World} {p : Nat} {l : List UInt8} {pre : List Nat} {M : Nat → Prop} {W W' : World} {v : Value} (h : CS w p l pre M W v) {B : Nat} (hk : Kep (fun k => k < B ∨ M k) W W') (hB : w.heap.size ≤ B) : CS w p l pre M W' v :=
  ⟨h.m, h.ne, (hk.keep p (Array.getElem?_eq_some_iff.1 h.box).1 (.inr ((h.m p).2 (.inl rfl)))).trans h.box, own_kep h.row (fun g hg => hk.keep g (owns_lt h.row g hg).2 (.inr ((h.m g).2 (.inr hg)))), h.old.trans ((hk.mono (K' := fun q => q < w.heap.size) fun q _ hq => .inl (by omega)).below h.old.size)⟩

/-- One sector more: what the append gives in the world that seal left. -/
theorem CS.snoc {w : World} {p : Nat} {l : List UInt8} {pre : List Nat} {M : Nat → Prop} {W : World} {v : Value} (h : CS w p l pre M W v) (hp : w.heap.size ≤ p) (x : Nat) (hn : pre.length < 5000) (W2 : World) (g : Nat)
    (hB : Below W.heap.size W W2) (hg : W2.heap[g]? = some (.cells (bcs (sealL (pcL l pre.length))).toArray 5 (0, 0))) (hl : (pcL l pre.length).length ≤ 252) :
    ∃ v' w', (∀ ty, (Builtin.append_ #[38, 38] ty #[v, .slice (some ⟨g, 0, none⟩) 256 256]).run Try.prog W2 = .ok v' w') ∧ w'.heap[p]? = some (.cells #[v] 38 (0, 0)) ∧ (∃ a n c, v' = .slice a n c) ∧
      ∃ M', Stp M W M' (w'.setCell ⟨p, 0, none⟩ v') ∧ CS w p l (pre ++ [x]) M' (w'.setCell ⟨p, 0, none⟩ v') v' := by
  obtain ⟨i0, hi, hz0, hz1, hz2⟩ := info_parts info5
  have hpl := (Array.getElem?_eq_some_iff.1 h.box).1
  have hsz := hB.size
  have hwz := h.old.size
  have hsl := sealL_length hl
  have hrow : Own W2 w.heap.size v (sealsL l pre.length) := own_kep h.row (fun k hk => hB.block k (owns_lt h.row k hk).2)
  have hnews := Bytes.cells (bytes_row hg)
  have hll := sealsL_length l pre.length
  obtain ⟨v', w', hr, h2, h3, h4⟩ := append_own2 (P := Try.prog) W2 w.heap.size 38 0 5 i0 (.int .u8 0) 1 1 Try.underlying38 hi hz0 hz1 hz2 rfl (by decide) v _ _ hrow ⟨g, 0, none⟩ 256 256 (bcs (sealL (pcL l pre.length))) (by rw [bcs_length, hsl]) hnews (bcs_one _) (by unfold maxLen; omega) (by omega) (by omega)
  have hbx : w'.heap[p]? = some (.cells #[v] 38 (0, 0)) := (h3.block p (by omega) (fun e => h.ne e.symm)).trans ((hB.block p hpl).trans h.box)
  have hown := owns_lt h2
  obtain ⟨a', c', ev⟩ := Al.own_slice h2
  have hne' : v'.ownBlock ≠ some p := by
    intro e
    rcases h4 with h4 | h4
    · exact h.ne (h4 ▸ e)
    · have := h4 p e; omega
  refine ⟨v', w', fun ty => hr, hbx, ⟨a', _, c', ev⟩, fun q => q = p ∨ v'.ownBlock = some q, ⟨⟨h3.os.trans hB.os, h3.tape.trans hB.tape, h3.output.trans hB.output, ?_, ?_⟩, ?_, ?_⟩, ⟨fun q => Iff.rfl, hne', box_set hbx _, ?_, ?_⟩⟩
  · have := h3.size; simp [World.setCell] at this ⊢; omega
  · intro k hk hM
    have hkp : k ≠ p := fun e => hM ((h.m k).2 (.inl e))
    have hkv : some k ≠ v.ownBlock := fun e => hM ((h.m k).2 (.inr e.symm))
    rw [Below.heap_setCell _ _ _ _ hkp, h3.block k (by omega) hkv]
    exact hB.block k hk
  · rintro k hk (rfl | hv)
    · exact (h.m k).2 (.inl rfl)
    · rcases h4 with h4 | h4
      · exact (h.m k).2 (.inr (by rw [← h4]; exact hv))
      · have := h4 k hv; omega
  · rintro k (rfl | hv)
    · have := h3.size; simp [World.setCell] at this ⊢; omega
    · have := (hown k hv).2; simpa [World.setCell] using this
  · have e : Own w' w.heap.size v' (sealsL l (pre ++ [x]).length) := by
      rw [List.length_append, List.length_singleton, sealsL_succ, Own, List.length_append, hsl, bcs_append]
      exact h2
    exact own_kep e (fun k hk => Below.heap_setCell _ _ _ _ (fun e2 => hne' (by rw [hk, e2])))
  · have hb1 : Below w.heap.size w w' := (h.old.trans (hB.mono hwz)).grown h3 (by omega) (fun k hk => (owns_lt h.row k hk).1)
    exact hb1.setCell (p := ⟨p, 0, none⟩) hp _

/-- 'append' by its run, as one step of a region that draws, inside a fence. -/
theorem stepIn_append_run {F : Fence} {n : Nat} {P : Program} {w : World} {ops : Array Oper} {o : Oper} {a : Act} {K : Act → World → Prop} {Q : Exit → Act → World → Prop} {E : Prop}
    (hg : o.guard = none) (s x : Operand) (t : TypeId) (hop : o.op = Op.call { callee := Callee.builtin Builtin.append, args := #[s, x], argTypes := #[t, t] })
    (vs vx : Value) (hs : a.eval s = vs) (hx : a.eval x = vx) (v' : Value) (w' : World) (hrun : ∀ ty, (Builtin.append_ #[t, t] ty #[vs, vx]).run P w = .ok v' w')
    (hK : K (a.put o.dst v') w') : if Region.wanted o (yielded ops a.tmps) = true then Oper.wpIn F n P o a w K Q else E := by
  have hw : Region.wanted o (yielded ops a.tmps) = true := by simp [Region.wanted, hg]
  rw [if_pos hw]
  unfold Oper.wpIn
  refine ⟨?_, ?_⟩
  · simp [Oper.about, hop, resolve, Target.leads, Sem.run_pure]
  · rw [Oper.semAt_plain F _ _ (by rw [hop]; intro c hc'; cases hc')]
    simp [execOp, hop, resolve, invoke, builtin, hs, hx, hrun, Result.andThen]
    exact hK

theorem range_at {pre : List Nat} {x K : Nat} (h : pre ++ [x] <+: List.range K) : x = pre.length ∧ pre.length < K := by
  have hl := h.length_le
  simp at hl
  have h1 := List.prefix_iff_getElem?.1 h pre.length (by simp)
  simp [show pre.length < K by omega] at h1
  omega
set_option maxRecDepth 100000 in
set_option maxHeartbeats 4000000 in
theorem sealAll_any (w : World) (b off cap : Nat) (l : List UInt8) (h1 : 1 ≤ l.length) (hl : l.length ≤ 1032192) (hcap : l.length ≤ cap) (hb : Bytes w (some ⟨b, off, none⟩) l) :
    Calls Try.prog 43 #[.slice (some ⟨b, off, none⟩) l.length cap] w fun e w' => ∃ v, e = .returned v ∧ Own w' w.heap.size v (sealsL l (nsec l.length)) ∧ Below w.heap.size w w' := by
  obtain ⟨i0, hi, hz0, hz1, hz2⟩ := info_parts info5
  obtain ⟨K, hK⟩ : ∃ K, K = nsec l.length := ⟨_, rfl⟩
  have hK2 : K ≤ 4096 := by rw [hK]; unfold nsec; omega
  have hK3 : 252 * K < l.length + 252 := by rw [hK]; unfold nsec; omega
  have hm : i0.bytes * (K * 256) ≤ 281474976710656 := by rw [hz2]; omega
  have hsec := fun w => sectors_any (l.length : Int) w (by omega)
  rw [secI_nat, ← hK] at hsec
  obtain ⟨n, hn⟩ : ∃ n, n = l.length := ⟨_, rfl⟩
  have HBY : Hid (Bytes w (some ⟨b, off, none⟩) l) := hb
  have HN : Hid (n = l.length ∧ K = nsec n) := ⟨hn, by rw [hn, hK]⟩
  rw [← hK]
  rw [← hn] at hsec hl h1 hcap hK3 ⊢
  clear hb hn hK
  refine (callsIn_wide (n := 0)).1 ?_
  refine callsIn_of_wp_marks Try.func43 rfl trivial ?_ rfl
  simp only [Try.ntmps43, List.size_toArray, List.length_cons, List.length_nil, Nat.reduceAdd, Nat.reduceSub, Array.replicate_succ, Array.replicate_zero, List.push_toArray, List.append_toArray, List.nil_append, List.cons_append]
  refine wpIn_wide.2 ?_
  go_wp2_with (first
    | (go_at_call 28; refine Calls.mono (hsec _) ?_; rintro e w1 ⟨rfl, rfl⟩)
    | (at_make; refine wpList_make_own _ rfl _ _ 38 rfl w.heap.size 5 i0 (.int .u8 0) 1 Try.underlying38 hi hz0 hz1 _ _ _ (K * 256) rfl rfl (by omega) hm (by unfold maxLen; omega) (Nat.le_refl _) ?_; intro w0 hown0 hgrow0)
    | (go_at_call 73; refine Calls.mono (chunk_any b off n cap _) ?_; rintro e w5 ⟨rfl, rfl⟩))
  have hb0 : Below w.heap.size w w0 := (Below.refl _ _).grown hgrow0 (Nat.le_refl _) (by simp)
  obtain ⟨p, hp⟩ : ∃ p, p = w0.heap.size := ⟨_, rfl⟩
  obtain ⟨bs, hbs⟩ : ∃ bs, bs = p + 1 := ⟨_, rfl⟩
  have hwp : w.heap.size < p := by rw [hp]; exact (owns_lt hown0 w.heap.size rfl).2
  rw [← hp, ← hbs]
  obtain ⟨W, hW⟩ : ∃ W, W = ((w0.alloc (.cells #[.slice (some ⟨w.heap.size, 0, none⟩) 0 (K * 256)] 38)).alloc (.cells #[.slice (some ⟨b, off, none⟩) n cap] 38)).alloc (.cells #[.int .i64 252] 3) := ⟨_, rfl⟩
  have hz : W.heap.size = p + 3 := by rw [hW, hp]; simp
  have hbW : Below w.heap.size w W := by rw [hW]; exact ((hb0.alloc hb0.size _).alloc (by have := hb0.size; simp; omega) _).alloc (by have := hb0.size; simp; omega) _
  have hbx : W.heap[p]? = some (.cells #[.slice (some ⟨w.heap.size, 0, none⟩) 0 (K * 256)] 38 (0, 0)) := by
    rw [hW, hp]
    exact (Below.heap_alloc _ _ _ (by simp <;> omega)).trans ((Below.heap_alloc _ _ _ (by simp)).trans (Al.heap_alloc_new w0 _))
  have hc1 : W.cell? ⟨bs, 0, none⟩ = some (.slice (some ⟨b, off, none⟩) n cap) := by
    refine box_cell (t := 38) ?_
    rw [hW, hbs, hp]
    refine (Below.heap_alloc _ _ _ (by simp <;> omega)).trans ?_
    have := Al.heap_alloc_new (w0.alloc (.cells #[.slice (some ⟨w.heap.size, 0, none⟩) 0 (K * 256)] 38)) (.cells #[.slice (some ⟨b, off, none⟩) n cap] 38)
    rwa [World.size_alloc] at this
  have hc2 : W.cell? ⟨bs + 1, 0, none⟩ = some (.int .i64 252) := by
    refine box_cell (t := 3) ?_
    rw [hW, hbs, hp]
    have := Al.heap_alloc_new ((w0.alloc (.cells #[.slice (some ⟨w.heap.size, 0, none⟩) 0 (K * 256)] 38)).alloc (.cells #[.slice (some ⟨b, off, none⟩) n cap] 38)) (.cells #[.int .i64 252] 3)
    rwa [World.size_alloc, World.size_alloc] at this
  have hrow : Own W w.heap.size (.slice (some ⟨w.heap.size, 0, none⟩) 0 (K * 256)) (sealsL l 0) := by
    rw [hW]
    exact ((World.ownsRow.alloc hown0 _).alloc _).alloc _
  rw [← hW]
  have hsq := chunk_seq b off n cap bs W (by omega) hcap hc1 hc2
  rw [← HN.out.2] at hsq
  clear hW hown0 hgrow0 hb0 hp hc1 hc2 hsec
  rename_i Kc hKc
  refine wpIn_wide.1 (range_law (n := 0) (gf := 86) (lb := #[.pointer (some ⟨bs, 0, none⟩), .pointer (some ⟨bs + 1, 0, none⟩)]) rfl (enters_of Try.func86 (by kernel_rfl) rfl) hsq ?lt (fun _ => rfl)
    (fun pre M W' => ∃ v, CS w p l pre M W' v) (fun _ _ _ _ => False)
    (fun pre M W2 W3 h2 hk => by obtain ⟨v, h2⟩ := h2; exact ⟨v, h2.kept hk (by omega)⟩) (fun _ _ _ _ _ h2 _ => h2)
    (fun q => q = p ∨ q = w.heap.size) (fun _ => False) ?own (fun _ h => h.elim) ⟨.slice (some ⟨w.heap.size, 0, none⟩) 0 (K * 256), fun q => by simp [Value.ownBlock, eq_comm], by simp [Value.ownBlock]; omega, hbx, hrow, hbW⟩ ?act ?assign ?body ?done ?stop)
  case assign =>
    intro m l' x W2 K hK
    dsimp only [pcv]
    gi_wp2
    exact hK
  case lt => rintro q (rfl | rfl) <;> omega
  case own =>
    rintro q (rfl | rfl)
    · exact ⟨by rintro (h2 | h2) <;> omega, by omega⟩
    · exact ⟨by rintro (h2 | h2) <;> omega, by omega⟩
  case stop =>
    rintro D c pre M1 W2 hD hMD hpre h2 hdef
    exact h2.elim
  case body =>
    rintro m l' pre x M1 W2 ⟨v, h2⟩ hpre
    obtain ⟨rfl, hlt⟩ := range_at hpre
    have hq : (pcL l pre.length).length = min 252 (n - 252 * pre.length) := by rw [pcL_length, HN.out.1]
    have hby : Bytes W2.drew (some ⟨b, off + 252 * pre.length, none⟩) (pcL l pre.length) := (((HBY.out.below h2.old.drew (Nat.le_refl _)).drop (252 * pre.length)).take 252)
    have hse := seal_any W2.drew b (off + 252 * pre.length) (min 252 (n - 252 * pre.length)) (pcL l pre.length) (by rw [hq]; omega) hby
    rw [hq] at hse
    have HX : Hid (∀ W3, W3.heap[W2.heap.size]? = some (.cells (bcs (sealL (pcL l pre.length))).toArray 5 (0, 0)) → Below W2.heap.size W2.drew W3 → W3.cell? ⟨p, 0, none⟩ = some v ∧ ∃ a' n' c' w', (∀ ty, (Builtin.append_ #[38, 38] ty #[v, .slice (some ⟨W2.heap.size, 0, none⟩) 256 256]).run Try.prog W3 = .ok (.slice a' n' c') w') ∧ w'.cell? ⟨p, 0, none⟩ = some v ∧ w'.frozen? ⟨p, 0, none⟩ = false ∧
      Hid (∃ M', Stp M1 W2 M' (w'.setCell ⟨p, 0, none⟩ (.slice a' n' c')) ∧ CS w p l (pre ++ [pre.length]) M' (w'.setCell ⟨p, 0, none⟩ (.slice a' n' c')) (.slice a' n' c'))) := (by
      intro W3 q1 q2
      refine ⟨box_cell ((q2.block p (by have := (Array.getElem?_eq_some_iff.1 h2.box).1; exact this)).trans h2.box), ?_⟩
      obtain ⟨v', w', hr, hbx', ⟨a', n', c', rfl⟩, hE⟩ := h2.snoc (by omega) pre.length (by omega) W3 W2.heap.size ((Below.refl _ W2).drew.trans q2) q1 (by rw [hq]; omega)
      exact ⟨a', n', c', w', hr, box_cell hbx', box_free hbx', hE⟩)
    have i1 := box_cell h2.box
    obtain ⟨va, vn, vc, rfl⟩ : ∃ a n c, v = .slice a n c := by obtain ⟨a, c, e⟩ := Al.own_slice h2.row; exact ⟨a, _, c, e⟩
    obtain ⟨q, hqq⟩ : ∃ q, q = min 252 (n - 252 * pre.length) := ⟨_, rfl⟩
    rw [← hqq] at hse
    obtain ⟨o, ho⟩ : ∃ o, o = off + 252 * pre.length := ⟨_, rfl⟩
    rw [← ho] at hse
    have HSE : Hid (Calls Try.prog 74 #[.slice (some ⟨b, o, none⟩) q q] W2.drew fun e w' => e = .returned (.slice (some ⟨W2.heap.size, 0, none⟩) 256 256) ∧ w'.heap[W2.heap.size]? = some (.cells (bcs (sealL (pcL l pre.length))).toArray 5 (0, 0)) ∧ Below W2.heap.size W2.drew w') := hse
    clear hse h2 hby hq hlt hpre hbx hrow hbW hsq HBY
    have mixed : Try.prog.follows .mixedOrders = true := by kernel_rfl
    try rw [← hqq]
    try rw [← ho]
    clear hqq ho
    have HBS : Hid (bs = p + 1) := hbs
    clear hbs
    have HNN : Hid (n ≤ cap ∧ 1 ≤ n ∧ n ≤ 1032192 ∧ K ≤ 4096 ∧ 252 * K < n + 252) := ⟨hcap, h1, hl, hK2, hK3⟩
    clear hcap h1 hl hK2 hK3 hwp hz HN HNN hKc hm hi hz0 hz1 hz2
    gi_wp2
    refine wpIn_region_any (by assumption) ?_
    change wpAnyIn _ _ _ _ _ _ _ _ _ (World.drew _)
    refine wpAnyIn_ready (rs := [0, 1]) (by kernel_rfl) (by simp) ?_
    refine AllReadyIn.cons rfl (fun K hK => ?_) (AllReadyIn.cons rfl (fun K hK => ?_) AllReadyIn.nil)
    · go_simp
      refine hK _ _ ?_
      clear hK K
      refine wpAnyIn_ready (rs := [1]) (by kernel_rfl) (by simp) ?_
      refine AllReadyIn.cons rfl (fun K hK => ?_) AllReadyIn.nil
      go_simp
      refine hK _ _ ?_
      clear hK K
      refine wpAnyIn_ready (rs := [2]) (by kernel_rfl) (by simp) ?_
      refine AllReadyIn.cons rfl (fun K hK => ?_) AllReadyIn.nil
      go_simp
      gi_wp2_with (refine ⟨trivial, fun h => (by cases h), ?_⟩; gi_at_call 74; refine (CallsIn.inRound l' (callsIn_wide.2 HSE.out)).mono ?_; rintro e W3 ⟨rfl, q1, q2⟩; obtain ⟨i4, a', n', c', w', hr, i2, i3, HE⟩ := HX.out W3 q1 q2; clear q1 q2)
      try (refine hK _ _ ?_; clear hK K)
      refine wpAnyIn_ready (rs := [3]) (by kernel_rfl) (by simp) ?_
      refine AllReadyIn.cons rfl (fun K hK => ?_) AllReadyIn.nil
      refine stepIn_append_run rfl (.tmp 13) (.tmp 15) 38 rfl _ _ rfl rfl _ _ hr (hK _ _ ?_)
      clear hK K hr
      refine wpAnyIn_ready (rs := [4]) (by kernel_rfl) (by simp) ?_
      refine AllReadyIn.cons rfl (fun K hK => ?_) AllReadyIn.nil
      go_simp
      refine hK _ _ ?_
      clear hK K
      refine wpAnyIn_done (by kernel_rfl) ?_ _
      obtain ⟨M', hE⟩ := HE.out
      exact ⟨M', hE.1, _, hE.2⟩
    · go_simp
      refine hK _ _ ?_
      clear hK K
      refine wpAnyIn_ready (rs := [0, 2]) (by kernel_rfl) (by simp) ?_
      refine AllReadyIn.cons rfl (fun K hK => ?_) (AllReadyIn.cons rfl (fun K hK => ?_) AllReadyIn.nil)
      · go_simp
        refine hK _ _ ?_
        clear hK K
        refine wpAnyIn_ready (rs := [2]) (by kernel_rfl) (by simp) ?_
        refine AllReadyIn.cons rfl (fun K hK => ?_) AllReadyIn.nil
        go_simp
        gi_wp2_with (refine ⟨trivial, fun h => (by cases h), ?_⟩; gi_at_call 74; refine (CallsIn.inRound l' (callsIn_wide.2 HSE.out)).mono ?_; rintro e W3 ⟨rfl, q1, q2⟩; obtain ⟨i4, a', n', c', w', hr, i2, i3, HE⟩ := HX.out W3 q1 q2; clear q1 q2)
        try (refine hK _ _ ?_; clear hK K)
        refine wpAnyIn_ready (rs := [3]) (by kernel_rfl) (by simp) ?_
        refine AllReadyIn.cons rfl (fun K hK => ?_) AllReadyIn.nil
        refine stepIn_append_run rfl (.tmp 13) (.tmp 15) 38 rfl _ _ rfl rfl _ _ hr (hK _ _ ?_)
        clear hK K hr
        refine wpAnyIn_ready (rs := [4]) (by kernel_rfl) (by simp) ?_
        refine AllReadyIn.cons rfl (fun K hK => ?_) AllReadyIn.nil
        go_simp
        refine hK _ _ ?_
        clear hK K
        refine wpAnyIn_done (by kernel_rfl) ?_ _
        obtain ⟨M', hE⟩ := HE.out
        exact ⟨M', hE.1, _, hE.2⟩
      · go_simp
        gi_wp2_with (refine ⟨trivial, fun h => (by cases h), ?_⟩; gi_at_call 74; refine (CallsIn.inRound l' (callsIn_wide.2 HSE.out)).mono ?_; rintro e W3 ⟨rfl, q1, q2⟩; obtain ⟨i4, a', n', c', w', hr, i2, i3, HE⟩ := HX.out W3 q1 q2; clear q1 q2)
        try (refine hK _ _ ?_; clear hK K)
        refine wpAnyIn_ready (rs := [0]) (by kernel_rfl) (by simp) ?_
        refine AllReadyIn.cons rfl (fun K hK => ?_) AllReadyIn.nil
        go_simp
        refine hK _ _ ?_
        clear hK K
        refine wpAnyIn_ready (rs := [3]) (by kernel_rfl) (by simp) ?_
        refine AllReadyIn.cons rfl (fun K hK => ?_) AllReadyIn.nil
        refine stepIn_append_run rfl (.tmp 13) (.tmp 15) 38 rfl _ _ rfl rfl _ _ hr (hK _ _ ?_)
        clear hK K hr
        refine wpAnyIn_ready (rs := [4]) (by kernel_rfl) (by simp) ?_
        refine AllReadyIn.cons rfl (fun K hK => ?_) AllReadyIn.nil
        go_simp
        refine hK _ _ ?_
        clear hK K
        refine wpAnyIn_done (by kernel_rfl) ?_ _
        obtain ⟨M', hE⟩ := HE.out
        exact ⟨M', hE.1, _, hE.2⟩
  case done =>
    rintro D M1 W2 hD hMD ⟨v, h2⟩ hdef
    have hln : (List.range K).length = K := List.length_range
    have hrow2 := h2.row
    rw [hln] at hrow2
    obtain ⟨va, vc, rfl⟩ := Al.own_slice hrow2
    have i1 := box_cell h2.box
    have HR : Hid (Own W2 w.heap.size (.slice va (sealsL l K).length vc) (sealsL l K) ∧ Below w.heap.size w W2 ∧ ∀ g, Value.ownBlock (.slice va (sealsL l K).length vc) = some g → g ≠ D) := ⟨hrow2, h2.old, fun g e e2 => hMD ((h2.m D).2 (.inr (by rw [← e2]; exact e)))⟩
    clear h2 hrow2 hsq
    refine hKc _ _ ?_
    go_wp2
    refine leaves_marks [D] W2 (by simp) (by simpa using hdef) (fun W' hk => ⟨_, results_tmp rfl _ _ _, _, rfl, ?_, ?_⟩)
    · exact own_kep HR.out.1 (fun g hg => hk.keep g (owns_lt HR.out.1 g hg).2 (by simpa using HR.out.2.2 g hg))
    · exact HR.out.2.1.trans ((hk.mono (K' := fun q => q < w.heap.size) fun q _ h4 h5 => by simp at h5; omega).below HR.out.2.1.size)
end Go.Proofs.Ytpmjkgpmidejoaa

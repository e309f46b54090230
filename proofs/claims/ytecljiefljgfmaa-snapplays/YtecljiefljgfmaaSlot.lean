/-
  What a slot holds: read by its contract.
-/
import Derived.Test.YtecljiefljgfmaaSave
import Derived.Laws.Rows
namespace Go.Proofs.Ytecljiefljgfmaa
open Go.RowKit

theorem slice_span (b off n c i j : Nat) (h1 : i ≤ j) (h2 : j ≤ c) (h3 : i < c) (wx : World) : (Instr.slice 50 (.slice (some ⟨b, off, none⟩) n c) (some (.int .i64 (i : Int))) (some (.int .i64 (j : Int))) none).run Try.prog wx = .ok (.slice (some ⟨b, off + i, none⟩) (j - i) (c - i)) wx := by
  obtain ⟨i0, hi, hz0, hz1, hz2⟩ := info_parts info5
  simp [Instr.slice, run_underlying Try.underlying50, Instr.sliceBounds, run_sliceBound, sizeOf, typeInfo, hi, hz1, (by omega : (j : Int) ≤ (c : Int)), (by omega : (i : Int) ≤ (j : Int)), Addr.add]
  rw [if_neg (by omega)]
  split
  · rename_i h; subst h; rfl
  · rfl

theorem results_cell_two {fn : Func} {p u t : Tmp} {ty : TypeId} (h : fn.results = #[.cell p ty, .tmp u, .tmp t]) (tmps : Array Value) (P : Program) (w : World) :
    (results fn tmps).run P w = ((asAddr (tmps.getD p undef)).run P w).andThen fun a w₁ => ((loadVar ty a).run P w₁).andThen fun v w₂ => .ok (.tuple #[v, tmps.getD u undef, tmps.getD t undef]) w₂ := by
  simp only [results, h]
  simp [Sem.run_bind, Result.andThen]
theorem box_set {w : World} {s : Nat} {x0 x1 : Value} (h : w.heap[s]? = some (.cells #[x0, x1] 113 (0, 0))) (y0 y1 : Value) : ((w.setCell ⟨s, 0, none⟩ y0).setCell ⟨s, 1, none⟩ y1).heap[s]? = some (.cells #[y0, y1] 113 (0, 0)) := by
  have h1 := set_blk h 0 y0
  have h2 := set_blk h1 1 y1
  rw [h2]
  simp
theorem size113 : (Try.prog.info? 113).map (·.size) = some 2 := by kernel_rfl
theorem box_load {w : World} {s : Nat} {y0 y1 : Value} (h : w.heap[s]? = some (.cells #[y0, y1] 113 (0, 0))) : (loadVar 113 ⟨s, 0, none⟩).run Try.prog w = .ok (.agg #[y0, y1]) w :=
  run_loadVar_row (P := Try.prog) w s 113 113 #[y0, y1] (0, 0) _ h Try.underlying113 rfl size113

/-- Bytes of sectors read, none at all among them. -/
theorem sread_all (d p : Nat) (size : Nat) (w : World) (F : Nat → Prop) (M : D) (h : Dev w F d M) (hs : M.st ≠ 2) (hS : ∀ x ∈ M.S, x.size = 256) (hsz : p + sect size ≤ M.S.length) :
    Calls Try.prog 74 #[.pointer (some ⟨d, 0, none⟩), .int .i64 (p : Int), .int .i64 (size : Int)] w fun e w' => ∃ a c, e = .returned (.tuple #[.slice a size c, .int .i64 0]) ∧ Bytes w' a ((secs M.S p (sect size)).take size) ∧ (∀ ad, a = some ad → w.heap.size ≤ ad.block) ∧ (a = none → c = 0) ∧ size ≤ c ∧ Below w.heap.size w w' := by
  rcases Nat.eq_zero_or_pos size with h0 | h0
  · subst h0
    refine Calls.mono (sread_none d p w) ?_
    rintro e w' ⟨rfl, rfl⟩
    exact ⟨none, 0, rfl, .inl (by simp), by simp, fun _ => rfl, Nat.le_refl _, Below.refl _ _⟩
  · refine Calls.mono (sread_ok d p size w F M h hs hS h0 hsz) ?_
    rintro e w' ⟨a, c, rfl, h1, ⟨b, off, rfl, h2⟩, h3, _, h4⟩
    exact ⟨_, c, rfl, h1, by intro ad e; simp only [Option.some.injEq] at e; subst e; exact h2, by simp, h3, h4⟩

def slotHead (S : List ByteArray) (p : Nat) : List UInt8 := (secs S p (sect 24)).take 24
def slotEp (S : List ByteArray) (p : Nat) : Nat := g64 (((slotHead S p).drop 8).take 8)
def slotSz (S : List ByteArray) (p : Nat) : Nat := g64 ((slotHead S p).drop 16)
def slotSt (S : List ByteArray) (p : Nat) : List UInt8 := (secs S (p + 1) (sect (slotSz S p))).take (slotSz S p)
/-- What a slot of n sectors holds, if it is whole. -/
def slotR (S : List ByteArray) (p n : Nat) : Option (Nat × List UInt8) :=
  if fitsB n (slotSz S p) = true ∧ slotHead S p = headL (slotEp S p) (slotSt S p) then some (slotEp S p, slotSt S p) else none

set_option maxHeartbeats 2000000 in
set_option maxRecDepth 20000 in
theorem slot_nofit (d p n : Nat) (w : World) (F : Nat → Prop) (M : D) (h : Dev w F d M) (hs : M.st ≠ 2) (hS : ∀ x ∈ M.S, x.size = 256) (h1 : 1 ≤ n) (hn : p + n ≤ M.L.length) (hf : fitsB n (slotSz M.S p) = false) :
    Calls Try.prog 65 #[.pointer (some ⟨d, 0, none⟩), .int .i64 (p : Int), .int .i64 (n : Int)] w fun e w' => e = .returned (.tuple #[.agg #[.int .u64 0, .slice none 0 0], .bool false, .int .i64 0]) ∧ Below w.heap.size w w' := by
  obtain ⟨W, hW⟩ : ∃ W, W = w.alloc (.cells #[.int .u64 0, .slice none 0 0] 113) := ⟨_, rfl⟩
  obtain ⟨s, hsz⟩ : ∃ s, s = w.heap.size := ⟨_, rfl⟩
  have hblk : W.heap[s]? = some (.cells #[.int .u64 0, .slice none 0 0] 113 (0, 0)) := by rw [hW, hsz]; exact heap_alloc_new w _
  have hWB : Below w.heap.size w W := by rw [hW]; exact (Below.refl _ _).alloc (Nat.le_refl _) _
  have hlen := h.1.len
  have htop := h.1.top
  have hr := sread_ok d p 24 W F M (h.below hWB) hs hS (by omega) (by rw [show sect 24 = 1 from rfl]; omega)
  rw [show ((24 : Nat) : Int) = 24 from rfl] at hr
  have HF : Hid (fitsB n (slotSz M.S p) = false) := hf
  have HBL : Hid (W.heap[s]? = some (.cells #[.int .u64 0, .slice none 0 0] 113 (0, 0)) ∧ Below w.heap.size w W) := ⟨hblk, hWB⟩
  have hlen24 : (slotHead M.S p).length = 24 := by
    rw [slotHead, List.length_take, secs_length hS (by rw [show sect 24 = 1 from rfl]; omega)]
    rw [show sect 24 = 1 from rfl]; rfl
  have HG : Hid (((slotHead M.S p).drop 8).take 8 = ((slotHead M.S p).drop 8).take 8 ∧ (((slotHead M.S p).drop 8).take 8).length = 8 ∧ ((slotHead M.S p).drop 16).length = 8) := ⟨rfl, by rw [List.length_take, List.length_drop, hlen24]; rfl, by rw [List.length_drop, hlen24]⟩
  clear h hS hs hf hblk hWB hlen24
  go_enter Try.func65, Try.ntmps65
  go_wp2_with fail
  rw [← hW, ← hsz]
  have HS : Hid (w.heap.size ≤ s) := (show _ ≤ _ from Nat.le_of_eq hsz.symm)
  clear hW hsz
  refine Calls.mono hr ?_
  rintro e w1 ⟨a, c, rfl, hby, ⟨b, off, rfl, hnb⟩, _, hc, hb1⟩
  have hs1 : ∀ wx, (Instr.slice 50 (.slice (some ⟨b, off, none⟩) 24 c) (some (.int .i64 8)) (some (.int .i64 16)) none).run Try.prog wx = .ok (.slice (some ⟨b, off + 8, none⟩) 8 (c - 8)) wx := fun wx => slice_span b off 24 c 8 16 (by omega) (by omega) (by omega) wx
  have hs2 : ∀ wx, (Instr.slice 50 (.slice (some ⟨b, off, none⟩) 24 c) (some (.int .i64 16)) none none).run Try.prog wx = .ok (.slice (some ⟨b, off + 16, none⟩) 8 (c - 16)) wx := fun wx => slice_lo b off 24 c 16 (by omega) (by omega) wx
  have hg1 := get64_any (some ⟨b, off + 8, none⟩) (((slotHead M.S p).drop 8).take 8) (c - 8) w1 (by rw [HG.out.2.1]; omega) ((hby.drop 8).take 8)
  have hg2 := get64_any (some ⟨b, off + 16, none⟩) ((slotHead M.S p).drop 16) (c - 16) w1 (by rw [HG.out.2.2]; omega) (hby.drop 16)
  rw [HG.out.2.1] at hg1
  rw [HG.out.2.2] at hg2
  have hblk1 := (hb1.block s (Array.getElem?_eq_some_iff.1 HBL.out.1).1).trans HBL.out.1
  obtain ⟨sz, hszE⟩ : ∃ sz, sz = slotSz M.S p := ⟨_, rfl⟩
  rw [show g64 ((slotHead M.S p).drop 16) = sz from hszE.symm] at hg2
  have hszb : sz < 18446744073709551616 := by
    rw [hszE, slotSz, g64]
    split
    · have := vl_bd ((slotHead M.S p).drop 16) 8; rw [show (256 : Nat) ^ 8 = 18446744073709551616 from by decide] at this; exact this
    · omega
  obtain ⟨x, hx⟩ : ∃ x : Int, x = wrap64 (sz : Int) := ⟨_, rfl⟩
  have hfi : Calls Try.prog 35 #[.int .i64 (n : Int), .int .i64 (wrap64 (sz : Int))] w1 fun e w' => e = .returned (.bool false) ∧ w1 = w' := by
    have hw : wrap64 (sz : Int) = IntKind.i64.wrap (sz : Int) := by unfold wrap64; rw [IntKind.wrap_i64]
    have hw2 := IntKind.wrap_i64 (sz : Int)
    rw [hw]
    have := fits_any n (IntKind.i64.wrap (sz : Int)) w1 (by omega) (by rw [hw2]; omega)
    have hff : fitsB n (IntKind.i64.wrap (sz : Int)) = false := by
      by_cases h63 : sz < 9223372036854775808
      · rw [show IntKind.i64.wrap (sz : Int) = (sz : Int) from by rw [hw2]; omega, hszE]
        exact HF.out
      · have : IntKind.i64.wrap (sz : Int) < 0 := by rw [hw2]; omega
        simp only [fitsB, decide_eq_false_iff_not]
        omega
    rwa [hff] at this
  have HB1 : Hid (Below W.heap.size W w1 ∧ w1.heap[s]? = some (.cells #[.int .u64 0, .slice none 0 0] 113 (0, 0))) := ⟨hb1, hblk1⟩
  have c0 := cell_blk hblk1 0
  have c1 := cell_blk hblk1 1
  have f0 := frozen_blk hblk1 0
  have f1 := frozen_blk hblk1 1
  simp only [List.getElem?_toArray] at c0 c1
  clear hby hnb hszE hx x hblk1 hb1
  go_wp2_with (first
    | (go_at_call 77; (with_reducible refine Calls.mono hg1 ?_); rintro e w2 ⟨rfl, rfl⟩)
    | (go_at_call 77; (with_reducible refine Calls.mono hg2 ?_); rintro e w2 ⟨rfl, rfl⟩)
    | (go_at_call 35; (with_reducible refine Calls.mono hfi ?_); rintro e w2 ⟨rfl, rfl⟩))
  (try simp only [Exit.inBlock, Exit.then])
  have hlt : w.heap.size ≤ s := HS.out
  refine bodyPost_ret (v := .tuple #[.agg #[.int .u64 0, .slice none 0 0], .bool false, .int .i64 0]) ?_ rfl ⟨rfl, ?_⟩
  · rw [results_cell_two rfl]
    simp [asAddr, Result.andThen, box_load (box_set HB1.out.2 (.int .u64 0) (.slice none 0 0))]
  · exact ((HBL.out.2.trans (HB1.out.1.mono HBL.out.2.size)).setCell hlt _).setCell hlt _

set_option maxHeartbeats 2000000 in
set_option maxRecDepth 20000 in
theorem slot_fit (d p n : Nat) (w : World) (F : Nat → Prop) (M : D) (h : Dev w F d M) (hs : M.st ≠ 2) (hS : ∀ x ∈ M.S, x.size = 256) (h1 : 1 ≤ n) (hn : p + n ≤ M.L.length) (hf : fitsB n (slotSz M.S p) = true) (ok : Bool) (hok : ok = decide (slotHead M.S p = headL (slotEp M.S p) (slotSt M.S p))) :
    Calls Try.prog 65 #[.pointer (some ⟨d, 0, none⟩), .int .i64 (p : Int), .int .i64 (n : Int)] w fun e w' => ∃ a c, e = .returned (.tuple #[if ok then .agg #[.int .u64 (slotEp M.S p : Int), .slice a (slotSz M.S p) c] else .agg #[.int .u64 0, .slice none 0 0], .bool ok, .int .i64 0]) ∧ Bytes w' a (slotSt M.S p) ∧ (∀ ad, a = some ad → w.heap.size ≤ ad.block) ∧ (a = none → c = 0) ∧ slotSz M.S p ≤ c ∧ Below w.heap.size w w' := by
  obtain ⟨W, hW⟩ : ∃ W, W = w.alloc (.cells #[.int .u64 0, .slice none 0 0] 113) := ⟨_, rfl⟩
  obtain ⟨s, hsz⟩ : ∃ s, s = w.heap.size := ⟨_, rfl⟩
  have hblk : W.heap[s]? = some (.cells #[.int .u64 0, .slice none 0 0] 113 (0, 0)) := by rw [hW, hsz]; exact heap_alloc_new w _
  have hWB : Below w.heap.size w W := by rw [hW]; exact (Below.refl _ _).alloc (Nat.le_refl _) _
  have hlen := h.1.len
  have htop := h.1.top
  have hr := sread_ok d p 24 W F M (h.below hWB) hs hS (by omega) (by rw [show sect 24 = 1 from rfl]; omega)
  rw [show ((24 : Nat) : Int) = 24 from rfl] at hr
  have HBL : Hid (W.heap[s]? = some (.cells #[.int .u64 0, .slice none 0 0] 113 (0, 0)) ∧ Below w.heap.size w W) := ⟨hblk, hWB⟩
  have hlen24 : (slotHead M.S p).length = 24 := by
    rw [slotHead, List.length_take, secs_length hS (by rw [show sect 24 = 1 from rfl]; omega)]
    rw [show sect 24 = 1 from rfl]; rfl
  have HG : Hid ((slotHead M.S p).length = 24 ∧ (((slotHead M.S p).drop 8).take 8).length = 8 ∧ ((slotHead M.S p).drop 16).length = 8) := ⟨hlen24, by rw [List.length_take, List.length_drop, hlen24]; rfl, by rw [List.length_drop, hlen24]⟩
  obtain ⟨sz, hszE⟩ : ∃ sz, sz = slotSz M.S p := ⟨_, rfl⟩
  obtain ⟨ep, hepE⟩ : ∃ ep, ep = slotEp M.S p := ⟨_, rfl⟩
  have hfn : sect sz ≤ n - 1 := by
    rw [← hszE] at hf
    simp only [fitsB, decide_eq_true_eq, Int.toNat_natCast] at hf
    omega
  have hszb : sz ≤ 256 * (n - 1) := Nat.le_trans (sect_le _) (Nat.mul_le_mul_left _ hfn)
  have hszc : sz ≤ 1048576 := by omega
  have hepb : ep < 18446744073709551616 := by
    rw [hepE, slotEp, g64]
    split
    · have := vl_bd (((slotHead M.S p).drop 8).take 8) 8; rw [show (256 : Nat) ^ 8 = 18446744073709551616 from by decide] at this; exact this
    · omega
  have hstl : (slotSt M.S p).length = sz := by
    rw [slotSt, ← hszE, List.length_take, secs_length hS (by omega)]
    have := sect_le sz
    omega
  have HR2 : Hid (∀ q, Below W.heap.size W q → Calls Try.prog 74 #[.pointer (some ⟨d, 0, none⟩), .int .i64 ((p : Int) + 1), .int .i64 (sz : Int)] q fun e w' => ∃ a c, e = .returned (.tuple #[.slice a sz c, .int .i64 0]) ∧ Bytes w' a (slotSt M.S p) ∧ (∀ ad, a = some ad → q.heap.size ≤ ad.block) ∧ (a = none → c = 0) ∧ sz ≤ c ∧ Below q.heap.size q w') := (by
    intro q hq
    have := sread_all d (p + 1) sz q F M (h.below (hWB.trans (hq.mono hWB.size))) hs hS (by omega)
    rw [show ((p + 1 : Nat) : Int) = (p : Int) + 1 from by omega] at this
    rw [slotSt, ← hszE]
    exact this)
  have HFI : Hid (∀ q, Calls Try.prog 35 #[.int .i64 (n : Int), .int .i64 (sz : Int)] q fun e w' => e = .returned (.bool true) ∧ q = w') := (by
    intro q
    have := fits_any n sz q (by omega) (by omega)
    rw [← hszE] at hf
    rwa [hf] at this)
  have HHD : Hid (∀ a c q, Bytes q a (slotSt M.S p) → (a = none → c = 0) → Calls Try.prog 62 #[.agg #[.int .u64 (ep : Int), .slice a sz c]] q fun e w' => ∃ g cg, e = .returned (.slice (some ⟨g, 0, none⟩) 24 cg) ∧ Bytes w' (some ⟨g, 0, none⟩) (headL ep (slotSt M.S p)) ∧ Below q.heap.size q w') := (by
    intro a c q hb hno
    have := head_any ep a (slotSt M.S p) c q hepb hb (by omega) hno
    rw [hstl] at this
    refine Calls.mono this ?_
    rintro e w' ⟨v, rfl, ho, hb'⟩
    obtain ⟨g, cg, rfl, _⟩ := ho.addr (by rw [headL_length]; omega)
    obtain ⟨a', c', he, hby⟩ := ho.bytes
    simp only [Value.slice.injEq] at he
    obtain ⟨rfl, _⟩ := he
    rw [headL_length]
    exact ⟨g, cg, rfl, hby, hb'⟩)
  have HEQ : Hid (∀ b off c g cg q, Bytes q (some ⟨b, off, none⟩) (slotHead M.S p) → Bytes q (some ⟨g, 0, none⟩) (headL ep (slotSt M.S p)) → Calls Try.prog 75 #[.slice (some ⟨b, off, none⟩) 24 c, .slice (some ⟨g, 0, none⟩) 24 cg] q fun e w' => e = .returned (.bool ok) ∧ q = w') := (by
    intro b off c g cg q hb1 hb2
    have := equal_any (some ⟨b, off, none⟩) (some ⟨g, 0, none⟩) (slotHead M.S p) (headL ep (slotSt M.S p)) c cg q hb1 hb2
    rw [hlen24, headL_length, hepE, ← hok] at this
    exact this)
  have HEPS : Hid (ep = g64 (((slotHead M.S p).drop 8).take 8) ∧ sz = g64 ((slotHead M.S p).drop 16)) := ⟨hepE, hszE⟩
  rw [← hszE, ← hepE]
  clear h hS hs hf hblk hWB hlen24 hok hszE hepE hstl hepb hfn hszb
  go_enter Try.func65, Try.ntmps65
  go_wp2_with fail
  rw [← hW, ← hsz]
  have HS : Hid (w.heap.size ≤ s) := (show _ ≤ _ from Nat.le_of_eq hsz.symm)
  clear hW hsz
  refine Calls.mono hr ?_
  rintro e w1 ⟨a, c, rfl, hby, ⟨b, off, rfl, hnb⟩, _, hc, hb1⟩
  have hs1 : ∀ wx, (Instr.slice 50 (.slice (some ⟨b, off, none⟩) 24 c) (some (.int .i64 8)) (some (.int .i64 16)) none).run Try.prog wx = .ok (.slice (some ⟨b, off + 8, none⟩) 8 (c - 8)) wx := fun wx => slice_span b off 24 c 8 16 (by omega) (by omega) (by omega) wx
  have hs2 : ∀ wx, (Instr.slice 50 (.slice (some ⟨b, off, none⟩) 24 c) (some (.int .i64 16)) none none).run Try.prog wx = .ok (.slice (some ⟨b, off + 16, none⟩) 8 (c - 16)) wx := fun wx => slice_lo b off 24 c 16 (by omega) (by omega) wx
  have hg1 := get64_any (some ⟨b, off + 8, none⟩) (((slotHead M.S p).drop 8).take 8) (c - 8) w1 (by rw [HG.out.2.1]; omega) ((hby.drop 8).take 8)
  have hg2 := get64_any (some ⟨b, off + 16, none⟩) ((slotHead M.S p).drop 16) (c - 16) w1 (by rw [HG.out.2.2]; omega) (hby.drop 16)
  rw [HG.out.2.1, ← HEPS.out.1] at hg1
  rw [HG.out.2.2, ← HEPS.out.2] at hg2
  have hfi := HFI.out w1
  have hr2 := HR2.out w1 hb1
  have HB1 : Hid (Below W.heap.size W w1 ∧ w1.heap[s]? = some (.cells #[.int .u64 0, .slice none 0 0] 113 (0, 0)) ∧ Bytes w1 (some ⟨b, off, none⟩) (slotHead M.S p)) := ⟨hb1, (hb1.block s (Array.getElem?_eq_some_iff.1 HBL.out.1).1).trans HBL.out.1, hby⟩
  clear hby hnb hb1 hr HR2 HFI
  go_wp2_with (first
    | (go_at_call 77; (with_reducible refine Calls.mono hg1 ?_); rintro e w2 ⟨rfl, rfl⟩)
    | (go_at_call 77; (with_reducible refine Calls.mono hg2 ?_); rintro e w2 ⟨rfl, rfl⟩)
    | (go_at_call 35; (with_reducible refine Calls.mono hfi ?_); rintro e w2 ⟨rfl, rfl⟩)
    | (go_at_call 74; (with_reducible refine Calls.mono hr2 ?_); rintro e w2 ⟨a2, c2, rfl, hby2, hnb2, hno2, hc2, hb2⟩))
  obtain ⟨w3, hw3⟩ : ∃ w3, w3 = w2.alloc (.cells #[.int .u64 (ep : Int), .slice a2 sz c2] 113) := ⟨_, rfl⟩
  obtain ⟨t, ht⟩ : ∃ t, t = w2.heap.size := ⟨_, rfl⟩
  have hblk3 : w3.heap[t]? = some (.cells #[.int .u64 (ep : Int), .slice a2 sz c2] 113 (0, 0)) := by rw [hw3, ht]; exact heap_alloc_new w2 _
  have hb23 : Below w2.heap.size w2 w3 := by rw [hw3]; exact (Below.refl _ _).alloc (Nat.le_refl _) _
  have hhd := HHD.out a2 c2 w3 (hby2.below hb23 (Nat.le_refl _)) hno2
  rw [← hw3, ← ht]
  refine Calls.mono hhd ?_
  rintro e w4 ⟨g, cg, rfl, hby4, hb4⟩
  have hb13 : Below w1.heap.size w1 w4 := (hb2.trans (hb23.mono hb2.size)).trans (hb4.mono (Nat.le_trans hb2.size hb23.size))
  have heq := HEQ.out b off c g cg w4 (HB1.out.2.2.below hb13 (Nat.le_refl _)) hby4
  have hblk4 : w4.heap[t]? = some (.cells #[.int .u64 (ep : Int), .slice a2 sz c2] 113 (0, 0)) := (hb4.block t (Array.getElem?_eq_some_iff.1 hblk3).1).trans hblk3
  have hbx4 : w4.heap[s]? = some (.cells #[.int .u64 0, .slice none 0 0] 113 (0, 0)) := (hb13.block s (Array.getElem?_eq_some_iff.1 HB1.out.2.1).1).trans HB1.out.2.1
  have hld : (loadVar 113 ⟨t, 0, none⟩).run Try.prog w4 = .ok (.agg #[.int .u64 (ep : Int), .slice a2 sz c2]) w4 := box_load hblk4
  have HB4 : Hid (Below W.heap.size W w4 ∧ w4.heap[s]? = some (.cells #[.int .u64 0, .slice none 0 0] 113 (0, 0)) ∧ Bytes w4 a2 (slotSt M.S p)) := ⟨HB1.out.1.trans (hb13.mono HB1.out.1.size), hbx4, hby2.below ((hb23.trans (hb4.mono hb23.size))) (Nat.le_refl _)⟩
  have HNB : Hid (∀ ad, a2 = some ad → w.heap.size ≤ ad.block) := fun ad e => by have := hnb2 ad e; have := HB1.out.1.size; have := HBL.out.2.size; omega
  have c0 := cell_blk hbx4 0
  have c1 := cell_blk hbx4 1
  have f0 := frozen_blk hbx4 0
  have f1 := frozen_blk hbx4 1
  have d0 := cell_blk hblk4 0
  have d1 := cell_blk hblk4 1
  simp only [List.getElem?_toArray] at c0 c1 d0 d1
  have HFB : Hid (∀ y0 y1, Below w.heap.size w ((w4.setCell ⟨s, 0, none⟩ y0).setCell ⟨s, 1, none⟩ y1)) := fun y0 y1 => ((HBL.out.2.trans (HB4.out.1.mono HBL.out.2.size)).setCell HS.out _).setCell HS.out _
  have HBYF : Hid (∀ y0 y1, Bytes ((w4.setCell ⟨s, 0, none⟩ y0).setCell ⟨s, 1, none⟩ y1) a2 (slotSt M.S p)) := (by
    intro y0 y1
    have hT : Turn (fun k => k = s) w4 ((w4.setCell ⟨s, 0, none⟩ y0).setCell ⟨s, 1, none⟩ y1) := ((Turn.refl (fun k => k = s) w4).setCell (p := ⟨s, 0, none⟩) rfl y0).setCell (p := ⟨s, 1, none⟩) rfl y1
    refine HB4.out.2.2.turn hT ?_
    rintro ad e rfl
    have h1 := hnb2 _ e
    have h2 := (Array.getElem?_eq_some_iff.1 HB1.out.2.1).1
    omega)
  clear hw3 ht hblk3 hb23 hhd hby2 hnb2 hb2 hby4 hb4 hb13 hblk4 hbx4 HEQ HHD hr2 hfi hg1 hg2 hs1 hs2
  cases ok with
  | true =>
    go_wp2_with (go_at_call 75; (with_reducible refine Calls.mono heq ?_); rintro e w5 ⟨rfl, rfl⟩)
    (try simp only [Exit.inBlock, Exit.then])
    refine bodyPost_ret (v := .tuple #[.agg #[.int .u64 (ep : Int), .slice a2 sz c2], .bool true, .int .i64 0]) ?_ rfl ⟨a2, c2, rfl, HBYF.out _ _, HNB.out, hno2, hc2, HFB.out _ _⟩
    rw [results_cell_two rfl]
    simp [asAddr, Result.andThen, box_load (box_set HB4.out.2.1 (.int .u64 (ep : Int)) (.slice a2 sz c2))]
  | false =>
    go_wp2_with (go_at_call 75; (with_reducible refine Calls.mono heq ?_); rintro e w5 ⟨rfl, rfl⟩)
    (try simp only [Exit.inBlock, Exit.then])
    refine bodyPost_ret (v := .tuple #[.agg #[.int .u64 0, .slice none 0 0], .bool false, .int .i64 0]) ?_ rfl ⟨rfl, a2, HBYF.out _ _, HNB.out, c2, hno2, hc2, HFB.out _ _⟩
    rw [results_cell_two rfl]
    simp [asAddr, Result.andThen, box_load (box_set HB4.out.2.1 (.int .u64 0) (.slice none 0 0))]
end Go.Proofs.Ytecljiefljgfmaa

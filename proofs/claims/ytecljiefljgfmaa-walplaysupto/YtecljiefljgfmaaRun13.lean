/-
  What a slot holds: read by its contract.
-/
import Derived.Test.YtecljiefljgfmaaRun07
import Derived.Laws.Rows
import Derived.Test.YtecljiefljgfmaaRun12
import Derived.Test.YtecljiefljgfmaaRun10
namespace Go.Proofs.Ytecljiefljgfmaa
open Go.RowKit

theorem slice_span (b off n c i j : Nat) (h1 : i ≤ j) (h2 : j ≤ c) (h3 : i < c) (wx : World) : (Instr.slice 50 (.slice (some ⟨b, off, none⟩) n c) (some (.int .i64 (i : Int))) (some (.int .i64 (j : Int))) none).run Try.prog wx = .ok (.slice (some ⟨b, off + i, none⟩) (j - i) (c - i)) wx := by
  obtain ⟨i0, hi, hz0, hz1, hz2⟩ := info_parts info5
  simp [Instr.slice, run_underlying Try.underlying50, Instr.sliceBounds, run_sliceBound, sizeOf, typeInfo, hi, hz1, (by omega : (j : Int) ≤ (c : Int)), (by omega : (i : Int) ≤ (j : Int)), Addr.add]
  rw [if_neg (by omega)]
  split
  · rename_i h; subst h; rfl
  · rfl

theorem results_cell_two {fn : Func} {p u t : Tmp} {ty : TypeId} (h : fn.results = #[.cell p ty, .tmp u, .tmp t]) (tmps : Array Value) (P : Program) (w : World) :
    (results fn tmps).run P w = ((asAddr (tmps.getD p undef)).run P w).andThen fun a w₁ => ((loadVar ty a).run P w₁).andThen fun v w₂ => .ok (.tuple #[v, tmps.getD u undef, tmps.getD t undef]) w₂ := by
  simp only [results, h]
  simp [Sem.run_bind, Result.andThen]
theorem box_set {w : World} {s : Nat} {x0 x1 : Value} (h : w.heap[s]? = some (.cells #[x0, x1] 113 (0, 0))) (y0 y1 : Value) : ((w.setCell ⟨s, 0, none⟩ y0).setCell ⟨s, 1, none⟩ y1).heap[s]? = some (.cells #[y0, y1] 113 (0, 0)) := by
  have h1 := set_blk h 0 y0
  have h2 := set_blk h1 1 y1
  rw [h2]
  simp
theorem size113 : (Try.prog.info? 113).map (·.size) = some 2 := by kernel_rfl
theorem box_load {w : World} {s : Nat} {y0 y1 : Value} (h : w.heap[s]? = some (.cells #[y0, y1] 113 (0, 0))) : (loadVar 113 ⟨s, 0, none⟩).run Try.prog w = .ok (.agg #[y0, y1]) w :=
  run_loadVar_row (P := Try.prog) w s 113 113 #[y0, y1] (0, 0) _ h Try.underlying113 rfl size113

/-- Bytes of sectors read, none at all among them. -/
theorem sread_all (d p : Nat) (size : Nat) (w : World) (F : Nat → Prop) (M : D) (h : Dev w F d M) (hs : M.st ≠ 2) (hS : ∀ x ∈ M.S, x.size = 256) (hsz : p + sect size ≤ M.S.length) :
    Calls Try.prog 74 #[.pointer (some ⟨d, 0, none⟩), .int .i64 (p : Int), .int .i64 (size : Int)] w fun e w' => ∃ a c, e = .returned (.tuple #[.slice a size c, .int .i64 0]) ∧ Bytes w' a ((secs M.S p (sect size)).take size) ∧ (∀ ad, a = some ad → w.heap.size ≤ ad.block) ∧ (a = none → c = 0) ∧ size ≤ c ∧ Below w.heap.size w w' := by
  rcases Nat.eq_zero_or_pos size with h0 | h0
  · subst h0
    refine Calls.mono (sread_none d p w) ?_
    rintro e w' ⟨rfl, rfl⟩
    exact ⟨none, 0, rfl, .inl (by simp), by simp, fun _ => rfl, Nat.le_refl _, Below.refl _ _⟩
  · refine Calls.mono (sread_ok d p size w F M h hs hS h0 hsz) ?_
    rintro e w' ⟨a, c, rfl, h1, ⟨b, off, rfl, h2⟩, h3, _, h4⟩
    exact ⟨_, c, rfl, h1, by intro ad e; simp only [Option.some.injEq] at e; subst e; exact h2, by simp, h3, h4⟩

def slotHead (S : List ByteArray) (p : Nat) : List UInt8 := (secs S p (sect 24)).take 24
def slotEp (S : List ByteArray) (p : Nat) : Nat := g64 (((slotHead S p).drop 8).take 8)
def slotSz (S : List ByteArray) (p : Nat) : Nat := g64 ((slotHead S p).drop 16)
def slotSt (S : List ByteArray) (p : Nat) : List UInt8 := (secs S (p + 1) (sect (slotSz S p))).take (slotSz S p)
/-- What a slot of n sectors holds, if it is whole. -/
def slotR (S : List ByteArray) (p n : Nat) : Option (Nat × List UInt8) :=
  if fitsB n (slotSz S p) = true ∧ slotHead S p = headL (slotEp S p) (slotSt S p) then some (slotEp S p, slotSt S p) else none

set_option maxHeartbeats 2000000 in
set_option maxRecDepth 20000 in
theorem slot_nofit (d p n : Nat) (w : World) (F : Nat → Prop) (M : D) (h : Dev w F d M) (hs : M.st ≠ 2) (hS : ∀ x ∈ M.S, x.size = 256) (h1 : 1 ≤ n) (hn : p + n ≤ M.L.length) (hf : fitsB n (slotSz M.S p) = false) :
    Calls Try.prog 65 #[.pointer (some ⟨d, 0, none⟩), .int .i64 (p : Int), .int .i64 (n : Int)] w fun e w' => e = .returned (.tuple #[.agg #[.int .u64 0, .slice none 0 0], .bool false, .int .i64 0]) ∧ Below w.heap.size w w' := by
  obtain ⟨W, hW⟩ : ∃ W, W = w.alloc (.cells #[.int .u64 0, .slice none 0 0] 113) := ⟨_, rfl⟩
  obtain ⟨s, hsz⟩ : ∃ s, s = w.heap.size := ⟨_, rfl⟩
  have hblk : W.heap[s]? = some (.cells #[.int .u64 0, .slice none 0 0] 113 (0, 0)) := by rw [hW, hsz]; exact heap_alloc_new w _
  have hWB : Below w.heap.size w W := by rw [hW]; exact (Below.refl _ _).alloc (Nat.le_refl _) _
  have hlen := h.1.len
  have htop := h.1.top
  have hr := sread_ok d p 24 W F M (h.below hWB) hs hS (by omega) (by rw [show sect 24 = 1 from rfl]; omega)
  rw [show ((24 : Nat) : Int) = 24 from rfl] at hr
  have HF : Hid (fitsB n (slotSz M.S p) = false) := hf
  have HBL : Hid (W.heap[s]? = some (.cells #[.int .u64 0, .slice none 0 0] 113 (0, 0)) ∧ Below w.heap.size w W) := ⟨hblk, hWB⟩
  have hlen24 : (slotHead M.S p).length = 24 := by
    rw [slotHead, List.length_take, secs_length hS (by rw [show sect 24 = 1 from rfl]; omega)]
    rw [show sect 24 = 1 from rfl]; rfl
  have HG : Hid (((slotHead M.S p).drop 8).take 8 = ((slotHead M.S p).drop 8).take 8 ∧ (((slotHead M.S p).drop 8).take 8).length = 8 ∧ ((slotHead M.S p).drop 16).length = 8) := ⟨rfl, by rw [List.length_take, List.length_drop, hlen24]; rfl, by rw [List.length_drop, hlen24]⟩
  clear h hS hs hf hblk hWB hlen24
  go_enter Try.func65, Try.ntmps65
  go_wp2_with fail
  rw [← hW, ← hsz]
  have HS : Hid (w.heap.size ≤ s) := (show _ ≤ _ from Nat.le_of_eq hsz.symm)
  clear hW hsz
  refine Calls.mono hr ?_
  rintro e w1 ⟨a, c, rfl, hby, ⟨b, off, rfl, hnb⟩, _, hc, hb1⟩
  have hs1 : ∀ wx, (Instr.slice 50 (.slice (some ⟨b, off, none⟩) 24 c) (some (.int .i64 8)) (some (.int .i64 16)) none).run Try.prog wx = .ok (.slice (some ⟨b, off + 8, none⟩) 8 (c - 8)) wx := fun wx => slice_span b off 24 c 8 16 (by omega) (by omega) (by omega) wx
  have hs2 : ∀ wx, (Instr.slice 50 (.slice (some ⟨b, off, none⟩) 24 c) (some (.int .i64 16)) none none).run Try.prog wx = .ok (.slice (some ⟨b, off + 16, none⟩) 8 (c - 16)) wx := fun wx => slice_lo b off 24 c 16 (by omega) (by omega) wx
  have hg1 := get64_any (some ⟨b, off + 8, none⟩) (((slotHead M.S p).drop 8).take 8) (c - 8) w1 (by rw [HG.out.2.1]; omega) ((hby.drop 8).take 8)
  have hg2 := get64_any (some ⟨b, off + 16, none⟩) ((slotHead M.S p).drop 16) (c - 16) w1 (by rw [HG.out.2.2]; omega) (hby.drop 16)
  rw [HG.out.2.1] at hg1
  rw [HG.out.2.2] at hg2
  have hblk1 := (hb1.block s (Array.getElem?_eq_some_iff.1 HBL.out.1).1).trans HBL.out.1
  obtain ⟨sz, hszE⟩ : ∃ sz, sz = slotSz M.S p := ⟨_, rfl⟩
  rw [show g64 ((slotHead M.S p).drop 16) = sz from hszE.symm] at hg2
  have hszb : sz < 18446744073709551616 := by
    rw [hszE, slotSz, g64]
    split
    · have := vl_bd ((slotHead M.S p).drop 16) 8; rw [show (256 : Nat) ^ 8 = 18446744073709551616 from by decide] at this; exact this
    · omega
  obtain ⟨x, hx⟩ : ∃ x : Int, x = wrap64 (sz : Int) := ⟨_, rfl⟩
  have hfi : Calls Try.prog 35 #[.int .i64 (n : Int), .int .i64 (wrap64 (sz : Int))] w1 fun e w' => e = .returned (.bool false) ∧ w1 = w' := by
    have hw : wrap64 (sz : Int) = IntKind.i64.wrap (sz : Int) := by unfold wrap64; rw [IntKind.wrap_i64]
    have hw2 := IntKind.wrap_i64 (sz : Int)
    rw [hw]
    have := fits_any n (IntKind.i64.wrap (sz : Int)) w1 (by omega) (by rw [hw2]; omega)
    have hff : fitsB n (IntKind.i64.wrap (sz : Int)) = false := by
      by_cases h63 : sz < 9223372036854775808
      · rw [show IntKind.i64.wrap (sz : Int) = (sz : Int) from by rw [hw2]; omega, hszE]
        exact HF.out
      · have : IntKind.i64.wrap (sz : Int) < 0 := by rw [hw2]; omega
        simp only [fitsB, decide_eq_false_iff_not]
        omega
    rwa [hff] at this
  have HB1 : Hid (Below W.heap.size W w1 ∧ w1.heap[s]? = some (.cells #[.int .u64 0, .slice none 0 0] 113 (0, 0))) := ⟨hb1, hblk1⟩
  have c0 := cell_blk hblk1 0
  have c1 := cell_blk hblk1 1
  have f0 := frozen_blk hblk1 0
  have f1 := frozen_blk hblk1 1
  simp only [List.getElem?_toArray] at c0 c1
  clear hby hnb hszE hx x hblk1 hb1
  go_wp2_with (first
    | (go_at_call 77; (with_reducible refine Calls.mono hg1 ?_); rintro e w2 ⟨rfl, rfl⟩)
    | (go_at_call 77; (with_reducible refine Calls.mono hg2 ?_); rintro e w2 ⟨rfl, rfl⟩)
    | (go_at_call 35; (with_reducible refine Calls.mono hfi ?_); rintro e w2 ⟨rfl, rfl⟩))
  (try simp only [Exit.inBlock, Exit.then])
  have hlt : w.heap.size ≤ s := HS.out
  refine bodyPost_ret (v := .tuple #[.agg #[.int .u64 0, .slice none 0 0], .bool false, .int .i64 0]) ?_ rfl ⟨rfl, ?_⟩
  · rw [results_cell_two rfl]
    simp [asAddr, Result.andThen, box_load (box_set HB1.out.2 (.int .u64 0) (.slice none 0 0))]
  · exact ((HBL.out.2.trans (HB1.out.1.mono HBL.out.2.size)).setCell hlt _).setCell hlt _

set_option maxHeartbeats 2000000 in
set_option maxRecDepth 20000 in
theorem slot_fit (d p n : Nat) (w : World) (F : Nat → Prop) (M : D) (h : Dev w F d M) (hs : M.st ≠ 2) (hS : ∀ x ∈ M.S, x.size = 256) (h1 : 1 ≤ n) (hn : p + n ≤ M.L.length) (hf : fitsB n (slotSz M.S p) = true) (ok : Bool) (hok : ok = decide (slotHead M.S p = headL (slotEp M.S p) (slotSt M.S p))) :
    Calls Try.prog 65 #[.pointer (some ⟨d, 0, none⟩), .int .i64 (p : Int), .int .i64 (n : Int)] w fun e w' => ∃ a c, e = .returned (.tuple #[if ok then .agg #[.int .u64 (slotEp M.S p : Int), .slice a (slotSz M.S p) c] else .agg #[.int .u64 0, .slice none 0 0], .bool ok, .int .i64 0]) ∧ Bytes w' a (slotSt M.S p) ∧ (∀ ad, a = some ad → w.heap.size ≤ ad.block) ∧ (a = none → c = 0) ∧ slotSz M.S p ≤ c ∧ Below w.heap.size w w' := by
  obtain ⟨W, hW⟩ : ∃ W, W = w.alloc (.cells #[.int .u64 0, .slice none 0 0] 113) := ⟨_, rfl⟩
  obtain ⟨s, hsz⟩ : ∃ s, s = w.heap.size := ⟨_, rfl⟩
  have hblk : W.heap[s]? = some (.cells #[.int .u64 0, .slice none 0 0] 113 (0, 0)) := by rw [hW, hsz]; exact heap_alloc_new w _
  have hWB : Below w.heap.size w W := by rw [hW]; exact (Below.refl _ _).alloc (Nat.le_refl _) _
  have hlen := h.1.len
  have htop := h.1.top
  have hr := sread_ok d p 24 W F M (h.below hWB) hs hS (by omega) (by rw [show sect 24 = 1 from rfl]; omega)
  rw [show ((24 : Nat) : Int) = 24 from rfl] at hr
  have HBL : Hid (W.heap[s]? = some (.cells #[.int .u64 0, .slice none 0 0] 113 (0, 0)) ∧ Below w.heap.size w W) := ⟨hblk, hWB⟩
  have hlen24 : (slotHead M.S p).length = 24 := by
    rw [slotHead, List.length_take, secs_length hS (by rw [show sect 24 = 1 from rfl]; omega)]
    rw [show sect 24 = 1 from rfl]; rfl
  have HG : Hid ((slotHead M.S p).length = 24 ∧ (((slotHead M.S p).drop 8).take 8).length = 8 ∧ ((slotHead M.S p).drop 16).length = 8) := ⟨hlen24, by rw [List.length_take, List.length_drop, hlen24]; rfl, by rw [List.length_drop, hlen24]⟩
  obtain ⟨sz, hszE⟩ : ∃ sz, sz = slotSz M.S p := ⟨_, rfl⟩
  obtain ⟨ep, hepE⟩ : ∃ ep, ep = slotEp M.S p := ⟨_, rfl⟩
  have hfn : sect sz ≤ n - 1 := by
    rw [← hszE] at hf
    simp only [fitsB, decide_eq_true_eq, Int.toNat_natCast] at hf
    omega
  have hszb : sz ≤ 256 * (n - 1) := Nat.le_trans (sect_le _) (Nat.mul_le_mul_left _ hfn)
  have hszc : sz ≤ 1048576 := by omega
  have hepb : ep < 18446744073709551616 := by
    rw [hepE, slotEp, g64]
    split
    · have := vl_bd (((slotHead M.S p).drop 8).take 8) 8; rw [show (256 : Nat) ^ 8 = 18446744073709551616 from by decide] at this; exact this
    · omega
  have hstl : (slotSt M.S p).length = sz := by
    rw [slotSt, ← hszE, List.length_take, secs_length hS (by omega)]
    have := sect_le sz
    omega
  have HR2 : Hid (∀ q, Below W.heap.size W q → Calls Try.prog 74 #[.pointer (some ⟨d, 0, none⟩), .int .i64 ((p : Int) + 1), .int .i64 (sz : Int)] q fun e w' => ∃ a c, e = .returned (.tuple #[.slice a sz c, .int .i64 0]) ∧ Bytes w' a (slotSt M.S p) ∧ (∀ ad, a = some ad → q.heap.size ≤ ad.block) ∧ (a = none → c = 0) ∧ sz ≤ c ∧ Below q.heap.size q w') := (by
    intro q hq
    have := sread_all d (p + 1) sz q F M (h.below (hWB.trans (hq.mono hWB.size))) hs hS (by omega)
    rw [show ((p + 1 : Nat) : Int) = (p : Int) + 1 from by omega] at this
    rw [slotSt, ← hszE]
    exact this)
  have HFI : Hid (∀ q, Calls Try.prog 35 #[.int .i64 (n : Int), .int .i64 (sz : Int)] q fun e w' => e = .returned (.bool true) ∧ q = w') := (by
    intro q
    have := fits_any n sz q (by omega) (by omega)
    rw [← hszE] at hf
    rwa [hf] at this)
  have HHD : Hid (∀ a c q, Bytes q a (slotSt M.S p) → (a = none → c = 0) → Calls Try.prog 62 #[.agg #[.int .u64 (ep : Int), .slice a sz c]] q fun e w' => ∃ g cg, e = .returned (.slice (some ⟨g, 0, none⟩) 24 cg) ∧ Bytes w' (some ⟨g, 0, none⟩) (headL ep (slotSt M.S p)) ∧ Below q.heap.size q w') := (by
    intro a c q hb hno
    have := head_any ep a (slotSt M.S p) c q hepb hb (by omega) hno
    rw [hstl] at this
    refine Calls.mono this ?_
    rintro e w' ⟨v, rfl, ho, hb'⟩
    obtain ⟨g, cg, rfl, _⟩ := ho.addr (by rw [headL_length]; omega)
    obtain ⟨a', c', he, hby⟩ := ho.bytes
    simp only [Value.slice.injEq] at he
    obtain ⟨rfl, _⟩ := he
    rw [headL_length]
    exact ⟨g, cg, rfl, hby, hb'⟩)
  have HEQ : Hid (∀ b off c g cg q, Bytes q (some ⟨b, off, none⟩) (slotHead M.S p) → Bytes q (some ⟨g, 0, none⟩) (headL ep (slotSt M.S p)) → Calls Try.prog 75 #[.slice (some ⟨b, off, none⟩) 24 c, .slice (some ⟨g, 0, none⟩) 24 cg] q fun e w' => e = .returned (.bool ok) ∧ q = w') := (by
    intro b off c g cg q hb1 hb2
    have := equal_any (some ⟨b, off, none⟩) (some ⟨g, 0, none⟩) (slotHead M.S p) (headL ep (slotSt M.S p)) c cg q hb1 hb2
    rw [hlen24, headL_length, hepE, ← hok] at this
    exact this)
  have HEPS : Hid (ep = g64 (((slotHead M.S p).drop 8).take 8) ∧ sz = g64 ((slotHead M.S p).drop 16)) := ⟨hepE, hszE⟩
  rw [← hszE, ← hepE]
  clear h hS hs hf hblk hWB hlen24 hok hszE hepE hstl hepb hfn hszb
  go_enter Try.func65, Try.ntmps65
  go_wp2_with fail
  rw [← hW, ← hsz]
  have HS : Hid (w.heap.size ≤ s) := (show _ ≤ _ from Nat.le_of_eq hsz.symm)
  clear hW hsz
  refine Calls.mono hr ?_
  rintro e w1 ⟨a, c, rfl, hby, ⟨b, off, rfl, hnb⟩, _, hc, hb1⟩
  have hs1 : ∀ wx, (Instr.slice 50 (.slice (some ⟨b, off, none⟩) 24 c) (some (.int .i64 8)) (some (.int .i64 16)) none).run Try.prog wx = .ok (.slice (some ⟨b, off + 8, none⟩) 8 (c - 8)) wx := fun wx => slice_span b off 24 c 8 16 (by omega) (by omega) (by omega) wx
  have hs2 : ∀ wx, (Instr.slice 50 (.slice (some ⟨b, off, none⟩) 24 c) (some (.int .i64 16)) none none).run Try.prog wx = .ok (.slice (some ⟨b, off + 16, none⟩) 8 (c - 16)) wx := fun wx => slice_lo b off 24 c 16 (by omega) (by omega) wx
  have hg1 := get64_any (some ⟨b, off + 8, none⟩) (((slotHead M.S p).drop 8).take 8) (c - 8) w1 (by rw [HG.out.2.1]; omega) ((hby.drop 8).take 8)
  have hg2 := get64_any (some ⟨b, off + 16, none⟩) ((slotHead M.S p).drop 16) (c - 16) w1 (by rw [HG.out.2.2]; omega) (hby.drop 16)
  rw [HG.out.2.1, ← HEPS.out.1] at hg1
  rw [HG.out.2.2, ← HEPS.out.2] at hg2
  have hfi := HFI.out w1
  have hr2 := HR2.out w1 hb1
  have HB1 : Hid (Below W.heap.size W w1 ∧ w1.heap[s]? = some (.cells #[.int .u64 0, .slice none 0 0] 113 (0, 0)) ∧ Bytes w1 (some ⟨b, off, none⟩) (slotHead M.S p)) := ⟨hb1, (hb1.block s (Array.getElem?_eq_some_iff.1 HBL.out.1).1).trans HBL.out.1, hby⟩
  clear hby hnb hb1 hr HR2 HFI
  go_wp2_with (first
    | (go_at_call 77; (with_reducible refine Calls.mono hg1 ?_); rintro e w2 ⟨rfl, rfl⟩)
    | (go_at_call 77; (with_reducible refine Calls.mono hg2 ?_); rintro e w2 ⟨rfl, rfl⟩)
    | (go_at_call 35; (with_reducible refine Calls.mono hfi ?_); rintro e w2 ⟨rfl, rfl⟩)
    | (go_at_call 74; (with_reducible refine Calls.mono hr2 ?_); rintro e w2 ⟨a2, c2, rfl, hby2, hnb2, hno2, hc2, hb2⟩))
  obtain ⟨w3, hw3⟩ : ∃ w3, w3 = w2.alloc (.cells #[.int .u64 (ep : Int), .slice a2 sz c2] 113) := ⟨_, rfl⟩
  obtain ⟨t, ht⟩ : ∃ t, t = w2.heap.size := ⟨_, rfl⟩
  have hblk3 : w3.heap[t]? = some (.cells #[.int .u64 (ep : Int), .slice a2 sz c2] 113 (0, 0)) := by rw [hw3, ht]; exact heap_alloc_new w2 _
  have hb23 : Below w2.heap.size w2 w3 := by rw [hw3]; exact (Below.refl _ _).alloc (Nat.le_refl _) _
  have hhd := HHD.out a2 c2 w3 (hby2.below hb23 (Nat.le_refl _)) hno2
  rw [← hw3, ← ht]
  refine Calls.mono hhd ?_
  rintro e w4 ⟨g, cg, rfl, hby4, hb4⟩
  have hb13 : Below w1.heap.size w1 w4 := (hb2.trans (hb23.mono hb2.size)).trans (hb4.mono (Nat.le_trans hb2.size hb23.size))
  have heq := HEQ.out b off c g cg w4 (HB1.out.2.2.below hb13 (Nat.le_refl _)) hby4
  have hblk4 : w4.heap[t]? = some (.cells #[.int .u64 (ep : Int), .slice a2 sz c2] 113 (0, 0)) := (hb4.block t (Array.getElem?_eq_some_iff.1 hblk3).1).trans hblk3
  have hbx4 : w4.heap[s]? = some (.cells #[.int .u64 0, .slice none 0 0] 113 (0, 0)) := (hb13.block s (Array.getElem?_eq_some_iff.1 HB1.out.2.1).1).trans HB1.out.2.1
  have hld : (loadVar 113 ⟨t, 0, none⟩).run Try.prog w4 = .ok (.agg #[.int .u64 (ep : Int), .slice a2 sz c2]) w4 := box_load hblk4
  have HB4 : Hid (Below W.heap.size W w4 ∧ w4.heap[s]? = some (.cells #[.int .u64 0, .slice none 0 0] 113 (0, 0)) ∧ Bytes w4 a2 (slotSt M.S p)) := ⟨HB1.out.1.trans (hb13.mono HB1.out.1.size), hbx4, hby2.below ((hb23.trans (hb4.mono hb23.size))) (Nat.le_refl _)⟩
  have HNB : Hid (∀ ad, a2 = some ad → w.heap.size ≤ ad.block) := fun ad e => by have := hnb2 ad e; have := HB1.out.1.size; have := HBL.out.2.size; omega
  have c0 := cell_blk hbx4 0
  have c1 := cell_blk hbx4 1
  have f0 := frozen_blk hbx4 0
  have f1 := frozen_blk hbx4 1
  have d0 := cell_blk hblk4 0
  have d1 := cell_blk hblk4 1
  simp only [List.getElem?_toArray] at c0 c1 d0 d1
  have HFB : Hid (∀ y0 y1, Below w.heap.size w ((w4.setCell ⟨s, 0, none⟩ y0).setCell ⟨s, 1, none⟩ y1)) := fun y0 y1 => ((HBL.out.2.trans (HB4.out.1.mono HBL.out.2.size)).setCell HS.out _).setCell HS.out _
  have HBYF : Hid (∀ y0 y1, Bytes ((w4.setCell ⟨s, 0, none⟩ y0).setCell ⟨s, 1, none⟩ y1) a2 (slotSt M.S p)) := (by
    intro y0 y1
    have hT : Turn (fun k => k = s) w4 ((w4.setCell ⟨s, 0, none⟩ y0).setCell ⟨s, 1, none⟩ y1) := ((Turn.refl (fun k => k = s) w4).setCell (p := ⟨s, 0, none⟩) rfl y0).setCell (p := ⟨s, 1, none⟩) rfl y1
    refine HB4.out.2.2.turn hT ?_
    rintro ad e rfl
    have h1 := hnb2 _ e
    have h2 := (Array.getElem?_eq_some_iff.1 HB1.out.2.1).1
    omega)
  clear hw3 ht hblk3 hb23 hhd hby2 hnb2 hb2 hby4 hb4 hb13 hblk4 hbx4 HEQ HHD hr2 hfi hg1 hg2 hs1 hs2
  cases ok with
  | true =>
    go_wp2_with (go_at_call 75; (with_reducible refine Calls.mono heq ?_); rintro e w5 ⟨rfl, rfl⟩)
    (try simp only [Exit.inBlock, Exit.then])
    refine bodyPost_ret (v := .tuple #[.agg #[.int .u64 (ep : Int), .slice a2 sz c2], .bool true, .int .i64 0]) ?_ rfl ⟨a2, c2, rfl, HBYF.out _ _, HNB.out, hno2, hc2, HFB.out _ _⟩
    rw [results_cell_two rfl]
    simp [asAddr, Result.andThen, box_load (box_set HB4.out.2.1 (.int .u64 (ep : Int)) (.slice a2 sz c2))]
  | false =>
    go_wp2_with (go_at_call 75; (with_reducible refine Calls.mono heq ?_); rintro e w5 ⟨rfl, rfl⟩)
    (try simp only [Exit.inBlock, Exit.then])
    refine bodyPost_ret (v := .tuple #[.agg #[.int .u64 0, .slice none 0 0], .bool false, .int .i64 0]) ?_ rfl ⟨rfl, a2, HBYF.out _ _, HNB.out, c2, hno2, hc2, HFB.out _ _⟩
    rw [results_cell_two rfl]
    simp [asAddr, Result.andThen, box_load (box_set HB4.out.2.1 (.int .u64 0) (.slice none 0 0))]
end Go.Proofs.Ytecljiefljgfmaa
/-
  Load by its contract.
-/
namespace Go.Proofs.Ytecljiefljgfmaa
open Go.RowKit

theorem slot_none (d p n : Nat) (w : World) (F : Nat → Prop) (M : D) (h : Dev w F d M) (hs : M.st ≠ 2) (hS : ∀ x ∈ M.S, x.size = 256) (h1 : 1 ≤ n) (hn : p + n ≤ M.L.length) (hR : slotR M.S p n = none) :
    Calls Try.prog 65 #[.pointer (some ⟨d, 0, none⟩), .int .i64 (p : Int), .int .i64 (n : Int)] w fun e w' => e = .returned (.tuple #[.agg #[.int .u64 0, .slice none 0 0], .bool false, .int .i64 0]) ∧ Below w.heap.size w w' := by
  cases hf : fitsB n (slotSz M.S p) with
  | false => exact slot_nofit d p n w F M h hs hS h1 hn hf
  | true =>
    have hne : slotHead M.S p ≠ headL (slotEp M.S p) (slotSt M.S p) := by
      intro e
      rw [slotR, if_pos ⟨hf, e⟩] at hR
      cases hR
    refine Calls.mono (slot_fit d p n w F M h hs hS h1 hn hf false (decide_eq_false hne).symm) ?_
    rintro e w' ⟨a, c, rfl, _, _, _, _, hb⟩
    exact ⟨rfl, hb⟩
theorem slot_some (d p n ep : Nat) (st : List UInt8) (w : World) (F : Nat → Prop) (M : D) (h : Dev w F d M) (hs : M.st ≠ 2) (hS : ∀ x ∈ M.S, x.size = 256) (h1 : 1 ≤ n) (hn : p + n ≤ M.L.length) (hR : slotR M.S p n = some (ep, st)) :
    Calls Try.prog 65 #[.pointer (some ⟨d, 0, none⟩), .int .i64 (p : Int), .int .i64 (n : Int)] w fun e w' => ∃ a c, e = .returned (.tuple #[.agg #[.int .u64 (ep : Int), .slice a st.length c], .bool true, .int .i64 0]) ∧ Bytes w' a st ∧ (∀ ad, a = some ad → w.heap.size ≤ ad.block) ∧ (a = none → c = 0) ∧ st.length ≤ c ∧ Below w.heap.size w w' := by
  have hlen := h.1.len
  have hc : fitsB n (slotSz M.S p) = true ∧ slotHead M.S p = headL (slotEp M.S p) (slotSt M.S p) := by
    by_cases hc : fitsB n (slotSz M.S p) = true ∧ slotHead M.S p = headL (slotEp M.S p) (slotSt M.S p)
    · exact hc
    · rw [slotR, if_neg hc] at hR
      cases hR
  rw [slotR, if_pos hc] at hR
  simp only [Option.some.injEq, Prod.mk.injEq] at hR
  obtain ⟨rfl, rfl⟩ := hR
  have hfn : sect (slotSz M.S p) ≤ n - 1 := by
    have hf := hc.1
    simp only [fitsB, decide_eq_true_eq, Int.toNat_natCast] at hf
    omega
  have hstl : (slotSt M.S p).length = slotSz M.S p := by
    rw [slotSt, List.length_take, secs_length hS (by omega)]
    have := sect_le (slotSz M.S p)
    omega
  rw [hstl]
  refine Calls.mono (slot_fit d p n w F M h hs hS h1 hn hc.1 true (decide_eq_true hc.2).symm) ?_
  rintro e w' ⟨a, c, rfl, h1, h2, h3, h4, h5⟩
  exact ⟨a, c, rfl, h1, h2, h3, h4, h5⟩

/-- What a slot tells: the whole state that lies in it, if it is its own epoch's. -/
def slotQ (S : List ByteArray) (p n j : Nat) : Option (Nat × List UInt8) := match slotR S p n with
  | none => none
  | some x => if x.1 % 2 = j then some x else none
def better (a b : Option (Nat × List UInt8)) : Option (Nat × List UInt8) := match a, b with
  | a, none => a
  | none, some y => some y
  | some x, some y => if y.1 < x.1 then some x else some y
def loadF (S : List ByteArray) (p n : Nat) : Option (Nat × List UInt8) := better (slotQ S p n 0) (slotQ S (p + n) n 1)

/-- What Load has found up to a slot, and the box in which it lies. -/
def acc (S : List ByteArray) (p n : Nat) : Nat → Option (Nat × List UInt8)
  | 0 => none
  | 1 => slotQ S p n 0
  | _ => loadF S p n
def Box (w : World) (base nb : Nat) : Option (Nat × List UInt8) → Prop
  | none => w.heap[nb]? = some (.cells #[.int .u64 0, .slice none 0 0] 113 (0, 0))
  | some x => ∃ a c, w.heap[nb]? = some (.cells #[.int .u64 (x.1 : Int), .slice a x.2.length c] 113 (0, 0)) ∧ Bytes w a x.2 ∧ ∀ ad, a = some ad → base ≤ ad.block ∧ ad.block ≠ nb
theorem Box.lt {w : World} {base nb : Nat} {o : Option (Nat × List UInt8)} (h : Box w base nb o) : nb < w.heap.size := by
  cases o with
  | none => exact (Array.getElem?_eq_some_iff.1 h).1
  | some x => obtain ⟨a, c, h, _⟩ := h; exact (Array.getElem?_eq_some_iff.1 h).1
theorem Box.below {w w' : World} {base nb : Nat} {o : Option (Nat × List UInt8)} (h : Box w base nb o) (hb : Below w.heap.size w w') : Box w' base nb o := by
  have hl := h.lt
  cases o with
  | none => exact (hb.block nb hl).trans h
  | some x => obtain ⟨a, c, h1, h2, h3⟩ := h; exact ⟨a, c, (hb.block nb hl).trans h1, h2.below hb (Nat.le_refl _), h3⟩
def boxEp : Option (Nat × List UInt8) → Nat
  | none => 0
  | some x => x.1
/-- What Load answers. -/
def LoadR (base : Nat) (e : Ending) (w' : World) : Option (Nat × List UInt8) → Prop
  | none => e = .returned (.tuple #[.slice none 0 0, .int .u64 0, .int .i64 61])
  | some x => ∃ a c, e = .returned (.tuple #[.slice a x.2.length c, .int .u64 (x.1 : Int), .int .i64 0]) ∧ Bytes w' a x.2 ∧ (∀ ad, a = some ad → base ≤ ad.block)
theorem Box.cells {w : World} {base nb : Nat} {o : Option (Nat × List UInt8)} (h : Box w base nb o) : ∃ e a l c, w.heap[nb]? = some (.cells #[.int .u64 (e : Int), .slice a l c] 113 (0, 0)) ∧ e = boxEp o := by
  cases o with
  | none => exact ⟨0, none, 0, 0, h, rfl⟩
  | some x => obtain ⟨a, c, h1, _⟩ := h; exact ⟨x.1, a, _, c, h1, rfl⟩

theorem box_take {w3 : World} {base nb : Nat} {o : Option (Nat × List UInt8)} (h : Box w3 base nb o) (ep : Nat) (st : List UInt8) (a : Option Addr) (c : Nat) (hby : Bytes w3 a st) (hnb : ∀ ad, a = some ad → base ≤ ad.block ∧ ad.block ≠ nb) : Box ((w3.setCell ⟨nb, 0, none⟩ (.int .u64 (ep : Int))).setCell ⟨nb, 1, none⟩ (.slice a st.length c)) base nb (some (ep, st)) := by
  obtain ⟨e, a0, l0, c0, hb, _⟩ := h.cells
  refine ⟨a, c, box_set hb _ _, ?_, hnb⟩
  have hT : Turn (fun k => k = nb) w3 ((w3.setCell ⟨nb, 0, none⟩ (.int .u64 (ep : Int))).setCell ⟨nb, 1, none⟩ (.slice a st.length c)) := ((Turn.refl (fun k => k = nb) w3).setCell (p := ⟨nb, 0, none⟩) rfl _).setCell (p := ⟨nb, 1, none⟩) rfl _
  exact hby.turn hT fun ad e => (hnb ad e).2

set_option maxHeartbeats 4000000 in
set_option maxRecDepth 20000 in
theorem load_any (d p n : Nat) (w : World) (F : Nat → Prop) (M : D) (h : Dev w F d M) (hs : M.st ≠ 2) (hS : ∀ x ∈ M.S, x.size = 256) (h1 : 1 ≤ n) (hn : p + 2 * n ≤ M.L.length) :
    Calls Try.prog 33 #[.pointer (some ⟨d, 0, none⟩), .int .i64 (p : Int), .int .i64 (n : Int)] w fun e w' => LoadR w.heap.size e w' (loadF M.S p n) ∧ Below w.heap.size w w' := by
  have hw1 := swithin_yes d p n w F M h h1 hn
  have htop := h.1.top
  have hp4 : p ≤ 4096 := by omega
  have hn4 : n ≤ 4096 := by omega
  have HN0 : Hid (∀ q, Below w.heap.size w q → slotR M.S p n = none → Calls Try.prog 65 #[.pointer (some ⟨d, 0, none⟩), .int .i64 (p : Int), .int .i64 (n : Int)] q fun e w' => e = .returned (.tuple #[.agg #[.int .u64 0, .slice none 0 0], .bool false, .int .i64 0]) ∧ Below q.heap.size q w') := fun q hq hr => slot_none d p n q F M (h.below hq) hs hS h1 (by omega) hr
  have HN1 : Hid (∀ q, Below w.heap.size w q → slotR M.S (p + n) n = none → Calls Try.prog 65 #[.pointer (some ⟨d, 0, none⟩), .int .i64 ((p : Int) + (n : Int)), .int .i64 (n : Int)] q fun e w' => e = .returned (.tuple #[.agg #[.int .u64 0, .slice none 0 0], .bool false, .int .i64 0]) ∧ Below q.heap.size q w') := fun q hq hr => by
    have := slot_none d (p + n) n q F M (h.below hq) hs hS h1 (by omega) hr
    rwa [show ((p + n : Nat) : Int) = (p : Int) + (n : Int) from by omega] at this
  have HS0 : Hid (∀ q ep st, Below w.heap.size w q → slotR M.S p n = some (ep, st) → Calls Try.prog 65 #[.pointer (some ⟨d, 0, none⟩), .int .i64 (p : Int), .int .i64 (n : Int)] q fun e w' => ∃ a c, e = .returned (.tuple #[.agg #[.int .u64 (ep : Int), .slice a st.length c], .bool true, .int .i64 0]) ∧ Bytes w' a st ∧ (∀ ad, a = some ad → q.heap.size ≤ ad.block) ∧ (a = none → c = 0) ∧ st.length ≤ c ∧ Below q.heap.size q w') := fun q ep st hq hr => slot_some d p n ep st q F M (h.below hq) hs hS h1 (by omega) hr
  have HS1 : Hid (∀ q ep st, Below w.heap.size w q → slotR M.S (p + n) n = some (ep, st) → Calls Try.prog 65 #[.pointer (some ⟨d, 0, none⟩), .int .i64 ((p : Int) + (n : Int)), .int .i64 (n : Int)] q fun e w' => ∃ a c, e = .returned (.tuple #[.agg #[.int .u64 (ep : Int), .slice a st.length c], .bool true, .int .i64 0]) ∧ Bytes w' a st ∧ (∀ ad, a = some ad → q.heap.size ≤ ad.block) ∧ (a = none → c = 0) ∧ st.length ≤ c ∧ Below q.heap.size q w') := fun q ep st hq hr => by
    have := slot_some d (p + n) n ep st q F M (h.below hq) hs hS h1 (by omega) hr
    rwa [show ((p + n : Nat) : Int) = (p : Int) + (n : Int) from by omega] at this
  clear h hs hS hn
  go_enter Try.func33, Try.ntmps33
  go_wp2_with (go_at_call 60; refine Calls.mono hw1 ?_; rintro e w1 ⟨rfl, rfl⟩)
  clear hw1
  have hbox0 : Box (w.alloc (.cells #[.int .u64 0, .slice none 0 0] 113)) w.heap.size w.heap.size none := heap_alloc_new w _
  have hb0 : Below w.heap.size w (w.alloc (.cells #[.int .u64 0, .slice none 0 0] 113)) := (Below.refl _ _).alloc (Nat.le_refl _) _
  obtain ⟨W, hW⟩ : ∃ W, W = w.alloc (.cells #[.int .u64 0, .slice none 0 0] 113) := ⟨_, rfl⟩
  rw [← hW] at hbox0 hb0 ⊢
  clear hW
  obtain ⟨nb, hnb⟩ : ∃ nb, nb = w.heap.size := ⟨_, rfl⟩
  have hbox1 : Box W w.heap.size nb none := by rw [hnb]; exact hbox0
  have HNB : Hid (w.heap.size ≤ nb) := (show _ ≤ _ from by omega)
  have hpt : (Value.pointer (some ⟨w.heap.size, 0, none⟩)) = .pointer (some ⟨nb, 0, none⟩) := by rw [hnb]
  rw [hpt]
  clear hpt hnb hbox0
  go_loopw [10, 20] (fun f i wr => ∃ k : Nat, k ≤ 2 ∧ i = .int .i64 k ∧ f = .bool (acc M.S p n k).isSome ∧ Box wr w.heap.size nb (acc M.S p n k) ∧ Below w.heap.size w wr) (fun _ i _ => 2 - (intOf i).toNat)
  case atStart => exact ⟨0, by omega, rfl, rfl, hbox1, hb0⟩
  case round =>
    obtain ⟨k, hk, rfl, rfl, hbox, hbw⟩ := hrel
    clear hbox1 hb0
    rcases (by omega : k = 0 ∨ k = 1 ∨ k = 2) with rfl | rfl | rfl
    · have hf0 : (acc M.S p n 0).isSome = false := rfl
      rw [hf0]
      rcases hR : slotR M.S p n with _ | ⟨ep, st⟩
      · have HA : Hid (acc M.S p n 1 = acc M.S p n 0) := (show _ = _ from by simp [acc, slotQ, hR])
        have hsl := HN0.out wr hbw hR
        go_upto_region 9 with (go_at_call 65; (with_reducible refine Calls.mono hsl ?_); rintro e w2 ⟨rfl, hb2⟩)
        obtain ⟨w3, hw3⟩ : ∃ w3, w3 = w2.alloc (.cells #[.int .u64 0, .slice none 0 0] 113) := ⟨_, rfl⟩
        have hb23 : Below w2.heap.size w2 w3 := by rw [hw3]; exact (Below.refl _ _).alloc (Nat.le_refl _) _
        have hb3 : Below wr.heap.size wr w3 := hb2.trans (hb23.mono hb2.size)
        have HF : Hid (Box w3 w.heap.size nb (acc M.S p n 0) ∧ Below w.heap.size w w3) := ⟨hbox.below hb3, hbw.trans (hb3.mono hbw.size)⟩
        rw [← hw3]
        clear hw3 hb23 hb3 hb2 hsl hbox hbw
        go_wp2
        go_roundw
        case rel => exact ⟨1, by omega, by go_num, by rw [HA.out]; rfl, by rw [HA.out]; exact HF.out.1, HF.out.2⟩
        case measure => simp [intOf]
      · have HRR : Hid (slotR M.S p n = some (ep, st)) := hR
        rcases (by omega : ep % 2 = 0 ∨ ep % 2 = 1) with h2 | h2
        · have HA : Hid (acc M.S p n 1 = some (ep, st)) := (show _ = _ from by simp [acc, slotQ, hR, h2])
          have hpar : (ep : Int) % 2 = 0 := by omega
          have hsl := HS0.out wr ep st hbw hR
          go_upto_region 9 with (go_at_call 65; (with_reducible refine Calls.mono hsl ?_); rintro e w2 ⟨a2, c2, rfl, hby2, hnb2, hno2, hc2, hb2⟩)
          obtain ⟨w3, hw3⟩ : ∃ w3, w3 = w2.alloc (.cells #[.int .u64 (ep : Int), .slice a2 st.length c2] 113) := ⟨_, rfl⟩
          obtain ⟨t, ht⟩ : ∃ t, t = w2.heap.size := ⟨_, rfl⟩
          have hblk3 : w3.heap[t]? = some (.cells #[.int .u64 (ep : Int), .slice a2 st.length c2] 113 (0, 0)) := by rw [hw3, ht]; exact heap_alloc_new w2 _
          have hb23 : Below w2.heap.size w2 w3 := by rw [hw3]; exact (Below.refl _ _).alloc (Nat.le_refl _) _
          have hb3 : Below wr.heap.size wr w3 := hb2.trans (hb23.mono hb2.size)
          have hbx3 := hbox.below hb3
          obtain ⟨eo, ao, lo, co, hbo, heo⟩ := hbx3.cells
          have hld : (loadVar 113 ⟨t, 0, none⟩).run Try.prog w3 = .ok (.agg #[.int .u64 (ep : Int), .slice a2 st.length c2]) w3 := box_load hblk3
          have d0 := cell_blk hblk3 0
          have d1 := cell_blk hblk3 1
          have c0 := cell_blk hbo 0
          have c1 := cell_blk hbo 1
          have f0 := frozen_blk hbo 0
          have f1 := frozen_blk hbo 1
          simp only [List.getElem?_toArray] at c0 c1 d0 d1
          have HF : Hid (Box w3 w.heap.size nb (acc M.S p n 0) ∧ Below w.heap.size w w3 ∧ Bytes w3 a2 st ∧ ∀ ad, a2 = some ad → w.heap.size ≤ ad.block ∧ ad.block ≠ nb) := ⟨hbx3, hbw.trans (hb3.mono hbw.size), hby2.below hb23 (Nat.le_refl _), fun ad e => by have h1 := hnb2 ad e; have h2 := hbox.lt; have h3 := hbw.size; exact ⟨by omega, by omega⟩⟩
          have hpt : (Value.pointer (some ⟨w2.heap.size, 0, none⟩)) = .pointer (some ⟨t, 0, none⟩) := by rw [ht]
          rw [← hw3, hpt]
          clear hw3 ht hpt hblk3 hb23 hb3 hb2 hsl hbox hbw hby2 hnb2 hbx3 hbo heo
          go_wp2
          go_roundw
          case rel => exact ⟨1, by omega, by go_num, by rw [HA.out]; rfl, by rw [HA.out]; exact box_take HF.out.1 ep st a2 c2 HF.out.2.2.1 HF.out.2.2.2, (HF.out.2.1.setCell HNB.out _).setCell HNB.out _⟩
          case measure => simp [intOf]
        · have HA : Hid (acc M.S p n 1 = acc M.S p n 0) := (show _ = _ from by simp [acc, slotQ, hR, h2])
          have hpar : (ep : Int) % 2 = 1 := by omega
          have hsl := HS0.out wr ep st hbw hR
          go_upto_region 9 with (go_at_call 65; (with_reducible refine Calls.mono hsl ?_); rintro e w2 ⟨a2, c2, rfl, hby2, hnb2, hno2, hc2, hb2⟩)
          obtain ⟨w3, hw3⟩ : ∃ w3, w3 = w2.alloc (.cells #[.int .u64 (ep : Int), .slice a2 st.length c2] 113) := ⟨_, rfl⟩
          obtain ⟨t, ht⟩ : ∃ t, t = w2.heap.size := ⟨_, rfl⟩
          have hblk3 : w3.heap[t]? = some (.cells #[.int .u64 (ep : Int), .slice a2 st.length c2] 113 (0, 0)) := by rw [hw3, ht]; exact heap_alloc_new w2 _
          have hb23 : Below w2.heap.size w2 w3 := by rw [hw3]; exact (Below.refl _ _).alloc (Nat.le_refl _) _
          have hb3 : Below wr.heap.size wr w3 := hb2.trans (hb23.mono hb2.size)
          have hbx3 := hbox.below hb3
          obtain ⟨eo, ao, lo, co, hbo, heo⟩ := hbx3.cells
          have hld : (loadVar 113 ⟨t, 0, none⟩).run Try.prog w3 = .ok (.agg #[.int .u64 (ep : Int), .slice a2 st.length c2]) w3 := box_load hblk3
          have d0 := cell_blk hblk3 0
          have d1 := cell_blk hblk3 1
          have c0 := cell_blk hbo 0
          have c1 := cell_blk hbo 1
          have f0 := frozen_blk hbo 0
          have f1 := frozen_blk hbo 1
          simp only [List.getElem?_toArray] at c0 c1 d0 d1
          have HF : Hid (Box w3 w.heap.size nb (acc M.S p n 0) ∧ Below w.heap.size w w3 ∧ Bytes w3 a2 st ∧ ∀ ad, a2 = some ad → w.heap.size ≤ ad.block ∧ ad.block ≠ nb) := ⟨hbx3, hbw.trans (hb3.mono hbw.size), hby2.below hb23 (Nat.le_refl _), fun ad e => by have h1 := hnb2 ad e; have h2 := hbox.lt; have h3 := hbw.size; exact ⟨by omega, by omega⟩⟩
          have hpt : (Value.pointer (some ⟨w2.heap.size, 0, none⟩)) = .pointer (some ⟨t, 0, none⟩) := by rw [ht]
          rw [← hw3, hpt]
          clear hw3 ht hpt hblk3 hb23 hb3 hb2 hsl hbox hbw hby2 hnb2 hbx3 hbo heo
          go_wp2
          go_roundw
          case rel => exact ⟨1, by omega, by go_num, by rw [HA.out]; rfl, by rw [HA.out]; exact HF.out.1, HF.out.2.1⟩
          case measure => simp [intOf]
    · rcases hR : slotR M.S (p + n) n with _ | ⟨ep, st⟩
      · have HA : Hid (acc M.S p n 2 = acc M.S p n 1) := (show _ = _ from by simp only [acc, loadF, slotQ, hR]; cases slotR M.S p n <;> simp [better])
        obtain ⟨fb, hfb⟩ : ∃ fb, fb = (acc M.S p n 1).isSome := ⟨_, rfl⟩
        rw [← hfb]
        have hsl := HN1.out wr hbw hR
        go_upto_region 9 with (go_at_call 65; (with_reducible refine Calls.mono hsl ?_); rintro e w2 ⟨rfl, hb2⟩)
        obtain ⟨w3, hw3⟩ : ∃ w3, w3 = w2.alloc (.cells #[.int .u64 0, .slice none 0 0] 113) := ⟨_, rfl⟩
        have hb23 : Below w2.heap.size w2 w3 := by rw [hw3]; exact (Below.refl _ _).alloc (Nat.le_refl _) _
        have hb3 : Below wr.heap.size wr w3 := hb2.trans (hb23.mono hb2.size)
        have HF : Hid (Box w3 w.heap.size nb (acc M.S p n 1) ∧ Below w.heap.size w w3) := ⟨hbox.below hb3, hbw.trans (hb3.mono hbw.size)⟩
        rw [← hw3]
        clear hw3 hb23 hb3 hb2 hsl hbox hbw
        go_wp2
        go_roundw
        case rel => exact ⟨2, by omega, by go_num, by rw [HA.out, ← hfb], by rw [HA.out]; exact HF.out.1, HF.out.2⟩
        case measure => simp [intOf]
      · rcases (by omega : ep % 2 = 0 ∨ ep % 2 = 1) with h2 | h2
        · have HA : Hid (acc M.S p n 2 = acc M.S p n 1) := (show _ = _ from by simp only [acc, loadF, slotQ, hR]; rw [if_neg (by omega)]; cases slotR M.S p n <;> simp [better])
          have hpar : (ep : Int) % 2 = 0 := by omega
          obtain ⟨fb, hfb⟩ : ∃ fb, fb = (acc M.S p n 1).isSome := ⟨_, rfl⟩
          rw [← hfb]
          have hsl := HS1.out wr ep st hbw hR
          go_upto_region 9 with (go_at_call 65; (with_reducible refine Calls.mono hsl ?_); rintro e w2 ⟨a2, c2, rfl, hby2, hnb2, hno2, hc2, hb2⟩)
          obtain ⟨w3, hw3⟩ : ∃ w3, w3 = w2.alloc (.cells #[.int .u64 (ep : Int), .slice a2 st.length c2] 113) := ⟨_, rfl⟩
          obtain ⟨t, ht⟩ : ∃ t, t = w2.heap.size := ⟨_, rfl⟩
          have hblk3 : w3.heap[t]? = some (.cells #[.int .u64 (ep : Int), .slice a2 st.length c2] 113 (0, 0)) := by rw [hw3, ht]; exact heap_alloc_new w2 _
          have hb23 : Below w2.heap.size w2 w3 := by rw [hw3]; exact (Below.refl _ _).alloc (Nat.le_refl _) _
          have hb3 : Below wr.heap.size wr w3 := hb2.trans (hb23.mono hb2.size)
          have hbx3 := hbox.below hb3
          obtain ⟨eo, ao, lo, co, hbo, heo⟩ := hbx3.cells
          have hld : (loadVar 113 ⟨t, 0, none⟩).run Try.prog w3 = .ok (.agg #[.int .u64 (ep : Int), .slice a2 st.length c2]) w3 := box_load hblk3
          have d0 := cell_blk hblk3 0
          have d1 := cell_blk hblk3 1
          have c0 := cell_blk hbo 0
          have c1 := cell_blk hbo 1
          have f0 := frozen_blk hbo 0
          have f1 := frozen_blk hbo 1
          simp only [List.getElem?_toArray] at c0 c1 d0 d1
          have HF : Hid (Box w3 w.heap.size nb (acc M.S p n 1) ∧ Below w.heap.size w w3 ∧ Bytes w3 a2 st ∧ ∀ ad, a2 = some ad → w.heap.size ≤ ad.block ∧ ad.block ≠ nb) := ⟨hbx3, hbw.trans (hb3.mono hbw.size), hby2.below hb23 (Nat.le_refl _), fun ad e => by have h1 := hnb2 ad e; have h2 := hbox.lt; have h3 := hbw.size; exact ⟨by omega, by omega⟩⟩
          have hpt : (Value.pointer (some ⟨w2.heap.size, 0, none⟩)) = .pointer (some ⟨t, 0, none⟩) := by rw [ht]
          rw [← hw3, hpt]
          clear hw3 ht hpt hblk3 hb23 hb3 hb2 hsl hbox hbw hby2 hnb2 hbx3 hbo heo
          go_wp2
          go_roundw
          case rel => exact ⟨2, by omega, by go_num, by rw [HA.out, ← hfb], by rw [HA.out]; exact HF.out.1, HF.out.2.1⟩
          case measure => simp [intOf]
        · have hpar : (ep : Int) % 2 = 1 := by omega
          have hQ : slotQ M.S (p + n) n 1 = some (ep, st) := by simp [slotQ, hR, h2]
          rcases hY : acc M.S p n 1 with _ | y
          · have HA : Hid (acc M.S p n 2 = some (ep, st)) := (show better (acc M.S p n 1) (slotQ M.S (p + n) n 1) = _ from by rw [hY, hQ]; rfl)
            rw [show (Option.isSome (none : Option (Nat × List UInt8))) = false from rfl]
            have hsl := HS1.out wr ep st hbw hR
            go_upto_region 9 with (go_at_call 65; (with_reducible refine Calls.mono hsl ?_); rintro e w2 ⟨a2, c2, rfl, hby2, hnb2, hno2, hc2, hb2⟩)
            obtain ⟨w3, hw3⟩ : ∃ w3, w3 = w2.alloc (.cells #[.int .u64 (ep : Int), .slice a2 st.length c2] 113) := ⟨_, rfl⟩
            obtain ⟨t, ht⟩ : ∃ t, t = w2.heap.size := ⟨_, rfl⟩
            have hblk3 : w3.heap[t]? = some (.cells #[.int .u64 (ep : Int), .slice a2 st.length c2] 113 (0, 0)) := by rw [hw3, ht]; exact heap_alloc_new w2 _
            have hb23 : Below w2.heap.size w2 w3 := by rw [hw3]; exact (Below.refl _ _).alloc (Nat.le_refl _) _
            have hb3 : Below wr.heap.size wr w3 := hb2.trans (hb23.mono hb2.size)
            have hbx3 := hbox.below hb3
            obtain ⟨eo, ao, lo, co, hbo, heo⟩ := hbx3.cells
            have hld : (loadVar 113 ⟨t, 0, none⟩).run Try.prog w3 = .ok (.agg #[.int .u64 (ep : Int), .slice a2 st.length c2]) w3 := box_load hblk3
            have d0 := cell_blk hblk3 0
            have d1 := cell_blk hblk3 1
            have c0 := cell_blk hbo 0
            have c1 := cell_blk hbo 1
            have f0 := frozen_blk hbo 0
            have f1 := frozen_blk hbo 1
            simp only [List.getElem?_toArray] at c0 c1 d0 d1
            have HF : Hid (Box w3 w.heap.size nb (acc M.S p n 1) ∧ Below w.heap.size w w3 ∧ Bytes w3 a2 st ∧ ∀ ad, a2 = some ad → w.heap.size ≤ ad.block ∧ ad.block ≠ nb) := ⟨hbx3, hbw.trans (hb3.mono hbw.size), hby2.below hb23 (Nat.le_refl _), fun ad e => by have h1 := hnb2 ad e; have h2 := hbox.lt; have h3 := hbw.size; exact ⟨by omega, by omega⟩⟩
            have hpt : (Value.pointer (some ⟨w2.heap.size, 0, none⟩)) = .pointer (some ⟨t, 0, none⟩) := by rw [ht]
            rw [← hw3, hpt]
            clear hw3 ht hpt hblk3 hb23 hb3 hb2 hsl hbox hbw hby2 hnb2 hbx3 hbo heo
            go_wp2
            go_roundw
            case rel => exact ⟨2, by omega, by go_num, by rw [HA.out]; rfl, by rw [HA.out]; exact box_take HF.out.1 ep st a2 c2 HF.out.2.2.1 HF.out.2.2.2, (HF.out.2.1.setCell HNB.out _).setCell HNB.out _⟩
            case measure => simp [intOf]
          · have HY : Hid (acc M.S p n 1 = some y) := hY
            rw [show (Option.isSome (some y)) = true from rfl]
            by_cases hlt : ep < y.1
            · have HA : Hid (acc M.S p n 2 = acc M.S p n 1) := (show better (acc M.S p n 1) (slotQ M.S (p + n) n 1) = _ from by rw [hY, hQ]; simp [better, hlt])
              have hlti : (ep : Int) < (y.1 : Int) := by omega
              clear hY hQ
              have hsl := HS1.out wr ep st hbw hR
              go_upto_region 9 with (go_at_call 65; (with_reducible refine Calls.mono hsl ?_); rintro e w2 ⟨a2, c2, rfl, hby2, hnb2, hno2, hc2, hb2⟩)
              obtain ⟨w3, hw3⟩ : ∃ w3, w3 = w2.alloc (.cells #[.int .u64 (ep : Int), .slice a2 st.length c2] 113) := ⟨_, rfl⟩
              obtain ⟨t, ht⟩ : ∃ t, t = w2.heap.size := ⟨_, rfl⟩
              have hblk3 : w3.heap[t]? = some (.cells #[.int .u64 (ep : Int), .slice a2 st.length c2] 113 (0, 0)) := by rw [hw3, ht]; exact heap_alloc_new w2 _
              have hb23 : Below w2.heap.size w2 w3 := by rw [hw3]; exact (Below.refl _ _).alloc (Nat.le_refl _) _
              have hb3 : Below wr.heap.size wr w3 := hb2.trans (hb23.mono hb2.size)
              have hbx3 := hbox.below hb3
              obtain ⟨eo, ao, lo, co, hbo, heo⟩ := hbx3.cells
              have hld : (loadVar 113 ⟨t, 0, none⟩).run Try.prog w3 = .ok (.agg #[.int .u64 (ep : Int), .slice a2 st.length c2]) w3 := box_load hblk3
              have d0 := cell_blk hblk3 0
              have d1 := cell_blk hblk3 1
              have c0 := cell_blk hbo 0
              have c1 := cell_blk hbo 1
              have f0 := frozen_blk hbo 0
              have f1 := frozen_blk hbo 1
              simp only [List.getElem?_toArray] at c0 c1 d0 d1
              have HF : Hid (Box w3 w.heap.size nb (acc M.S p n 1) ∧ Below w.heap.size w w3 ∧ Bytes w3 a2 st ∧ ∀ ad, a2 = some ad → w.heap.size ≤ ad.block ∧ ad.block ≠ nb) := ⟨hbx3, hbw.trans (hb3.mono hbw.size), hby2.below hb23 (Nat.le_refl _), fun ad e => by have h1 := hnb2 ad e; have h2 := hbox.lt; have h3 := hbw.size; exact ⟨by omega, by omega⟩⟩
              have hpt : (Value.pointer (some ⟨w2.heap.size, 0, none⟩)) = .pointer (some ⟨t, 0, none⟩) := by rw [ht]
              rw [← hw3, hpt]
              rw [HY.out] at heo
              rw [show boxEp (some y) = y.1 from rfl] at heo
              rw [heo] at c0
              clear hw3 ht hpt hblk3 hb23 hb3 hb2 hsl hbox hbw hby2 hnb2 hbx3 hbo heo
              go_wp2
              go_roundw
              case rel => exact ⟨2, by omega, by go_num, by rw [HA.out]; rw [HY.out]; rfl, by rw [HA.out]; exact HF.out.1, HF.out.2.1⟩
              case measure => simp [intOf]
            · have HA : Hid (acc M.S p n 2 = some (ep, st)) := (show better (acc M.S p n 1) (slotQ M.S (p + n) n 1) = _ from by rw [hY, hQ]; simp [better, hlt])
              have hlti : ¬ (ep : Int) < (y.1 : Int) := by omega
              clear hY hQ
              have hsl := HS1.out wr ep st hbw hR
              go_upto_region 9 with (go_at_call 65; (with_reducible refine Calls.mono hsl ?_); rintro e w2 ⟨a2, c2, rfl, hby2, hnb2, hno2, hc2, hb2⟩)
              obtain ⟨w3, hw3⟩ : ∃ w3, w3 = w2.alloc (.cells #[.int .u64 (ep : Int), .slice a2 st.length c2] 113) := ⟨_, rfl⟩
              obtain ⟨t, ht⟩ : ∃ t, t = w2.heap.size := ⟨_, rfl⟩
              have hblk3 : w3.heap[t]? = some (.cells #[.int .u64 (ep : Int), .slice a2 st.length c2] 113 (0, 0)) := by rw [hw3, ht]; exact heap_alloc_new w2 _
              have hb23 : Below w2.heap.size w2 w3 := by rw [hw3]; exact (Below.refl _ _).alloc (Nat.le_refl _) _
              have hb3 : Below wr.heap.size wr w3 := hb2.trans (hb23.mono hb2.size)
              have hbx3 := hbox.below hb3
              obtain ⟨eo, ao, lo, co, hbo, heo⟩ := hbx3.cells
              have hld : (loadVar 113 ⟨t, 0, none⟩).run Try.prog w3 = .ok (.agg #[.int .u64 (ep : Int), .slice a2 st.length c2]) w3 := box_load hblk3
              have d0 := cell_blk hblk3 0
              have d1 := cell_blk hblk3 1
              have c0 := cell_blk hbo 0
              have c1 := cell_blk hbo 1
              have f0 := frozen_blk hbo 0
              have f1 := frozen_blk hbo 1
              simp only [List.getElem?_toArray] at c0 c1 d0 d1
              have HF : Hid (Box w3 w.heap.size nb (acc M.S p n 1) ∧ Below w.heap.size w w3 ∧ Bytes w3 a2 st ∧ ∀ ad, a2 = some ad → w.heap.size ≤ ad.block ∧ ad.block ≠ nb) := ⟨hbx3, hbw.trans (hb3.mono hbw.size), hby2.below hb23 (Nat.le_refl _), fun ad e => by have h1 := hnb2 ad e; have h2 := hbox.lt; have h3 := hbw.size; exact ⟨by omega, by omega⟩⟩
              have hpt : (Value.pointer (some ⟨w2.heap.size, 0, none⟩)) = .pointer (some ⟨t, 0, none⟩) := by rw [ht]
              rw [← hw3, hpt]
              rw [HY.out] at heo
              rw [show boxEp (some y) = y.1 from rfl] at heo
              rw [heo] at c0
              clear hw3 ht hpt hblk3 hb23 hb3 hb2 hsl hbox hbw hby2 hnb2 hbx3 hbo heo
              go_wp2
              go_roundw
              case rel => exact ⟨2, by omega, by go_num, by rw [HA.out]; rfl, by rw [HA.out]; exact box_take HF.out.1 ep st a2 c2 HF.out.2.2.1 HF.out.2.2.2, (HF.out.2.1.setCell HNB.out _).setCell HNB.out _⟩
              case measure => simp [intOf]
    · obtain ⟨r, hr⟩ : ∃ r, r = loadF M.S p n := ⟨_, rfl⟩
      rw [show acc M.S p n 2 = r from by rw [hr]; rfl] at hbox ⊢
      cases r with
      | none =>
        have hblk : wr.heap[nb]? = some (.cells #[.int .u64 0, .slice none 0 0] 113 (0, 0)) := hbox
        rw [show (Option.isSome (none : Option (Nat × List UInt8))) = false from rfl]
        have HR : Hid (loadF M.S p n = none) := hr.symm
        clear hbox hblk hr
        go_wp2
        (try simp only [Exit.inBlock, Exit.then])
        refine bodyPost_ret (v := .tuple #[.slice none 0 0, .int .u64 0, .int .i64 61]) ?_ rfl ?_
        · simp [results, Try.f33]
        · rw [HR.out]
          exact ⟨rfl, hbw⟩
      | some x =>
        obtain ⟨a, c, hblk, hby, hbn⟩ := hbox
        rw [show (Option.isSome (some x)) = true from rfl]
        have c0 := cell_blk hblk 0
        have c1 := cell_blk hblk 1
        simp only [List.getElem?_toArray] at c0 c1
        have HF : Hid (Bytes wr a x.2 ∧ (∀ ad, a = some ad → w.heap.size ≤ ad.block) ∧ Below w.heap.size w wr) := ⟨hby, fun ad e => (hbn ad e).1, hbw⟩
        have HR : Hid (loadF M.S p n = some x) := hr.symm
        clear hblk hby hbn hr hbw
        go_wp2
        go_region
        all_goals
          (go_wp2
           (try simp only [Exit.inBlock, Exit.then])
           refine bodyPost_ret (v := .tuple #[.slice a x.2.length c, .int .u64 (x.1 : Int), .int .i64 0]) ?_ rfl ?_
           · simp [results, Try.f33]
           · rw [HR.out]
             exact ⟨⟨a, c, rfl, HF.out.1, HF.out.2.1⟩, HF.out.2.2.drew⟩)
end Go.Proofs.Ytecljiefljgfmaa
/-
  Two slots on a device: what was saved is what is loaded, also behind a crash.
-/
namespace Go.Proofs.Ytecljiefljgfmaa

theorem vl_be (n : Nat) (x : List UInt8) (hn : n < 4294967296) : vl (be n 4 ++ x) 4 = n := by
  simp [vl, be]
  omega
theorem vl_be8 (n : Nat) (x : List UInt8) (hn : n < 18446744073709551616) : vl (be n 8 ++ x) 8 = n := by
  simp [vl, be]
  omega
theorem psecs_size (b : List UInt8) : ∀ x ∈ psecs b, x.size = 256 := by
  intro x hx
  obtain ⟨j, hj, rfl⟩ := List.mem_map.1 hx
  exact fsecB_size (padTo_length b) (List.mem_range.1 hj)
theorem psecs_get {b : List UInt8} {j : Nat} (h : j < sect b.length) : (psecs b)[j]? = some (fsecB (padTo b) j) := by
  rw [psecs, fsecs, List.getElem?_map, List.getElem?_range h]; rfl
theorem laid_bytes {S : List ByteArray} {p : Nat} {b : List UInt8} (h : ∀ j, j < sect b.length → S[p + j]? = (psecs b)[j]?) : (secs S p (sect b.length)).take b.length = b := by
  have hl : Laid S p (padTo b) (sect b.length) := fun j hj => (h j hj).trans (psecs_get hj)
  rw [secs_laid hl _ (Nat.le_refl _), ← padTo_length, List.take_length, padTo, List.take_left' rfl]
theorem vl_be8' (n : Nat) (hn : n < 18446744073709551616) : g64 (be n 8) = n := by
  rw [(g64_yes (be_length n 8)).1]
  have e := vl_be8 n [] hn
  rwa [List.append_nil] at e

/-- A slot into which a state was saved is whole. -/
theorem slot_laid {S : List ByteArray} {q n ep : Nat} {st : List UInt8} (hep : ep < 18446744073709551616) (hl : st.length < 18446744073709551616) (hf : fitsB n st.length = true) (h0 : S[q]? = (psecs (headL ep st))[0]?) (h1 : ∀ j, j < sect st.length → S[q + 1 + j]? = (psecs st)[j]?) : slotR S q n = some (ep, st) := by
  have hh : slotHead S q = headL ep st := by
    have := laid_bytes (S := S) (p := q) (b := headL ep st) (by
      intro j hj
      rw [headL_length] at hj
      have : j = 0 := by have : sect 24 = 1 := rfl; omega
      subst this
      exact h0)
    rwa [headL_length] at this
  have hst : stampS ep st = be ep 8 ++ be st.length 8 := rfl
  have h8 : (headL ep st).drop 8 = stampS ep st := by
    rw [headL]
    exact List.drop_left' (by simp [markL, be_length])
  have hE : slotEp S q = ep := by
    rw [slotEp, hh, h8, hst, List.take_left' (be_length ep 8)]
    exact vl_be8' ep hep
  have h16 : (headL ep st).drop 16 = be st.length 8 := by
    rw [show (16 : Nat) = 8 + 8 from rfl, ← List.drop_drop, h8, hst]
    exact List.drop_left' (be_length ep 8)
  have hZ : slotSz S q = st.length := by
    rw [slotSz, hh, h16]
    exact vl_be8' _ hl
  have hT : slotSt S q = st := by
    rw [slotSt, hZ]
    exact laid_bytes h1
  rw [slotR, hE, hT, hZ, if_pos ⟨hf, hh⟩]
theorem slotHead_same {S S' : List ByteArray} {q : Nat} (h : S'[q]? = S[q]?) : slotHead S' q = slotHead S q := by
  rw [slotHead, slotHead, secs_same (S := S) (S' := S')]
  intro j hj
  have : j = 0 := by have : sect 24 = 1 := rfl; omega
  subst this
  exact h
/-- A slot is told by its own sectors alone. -/
theorem slot_same {S S' : List ByteArray} {q n : Nat} (h : ∀ j, j < n → S'[q + j]? = S[q + j]?) (hn : 1 ≤ n) : slotR S' q n = slotR S q n := by
  have hh : slotHead S' q = slotHead S q := slotHead_same (by have := h 0 (by omega); rwa [Nat.add_zero] at this)
  have hE : slotEp S' q = slotEp S q := by rw [slotEp, slotEp, hh]
  have hZ : slotSz S' q = slotSz S q := by rw [slotSz, slotSz, hh]
  rw [slotR, slotR, hE, hZ, hh]
  by_cases hf : fitsB n (slotSz S q) = true
  · have hT : slotSt S' q = slotSt S q := by
      rw [slotSt, slotSt, hZ, secs_same (S := S) (S' := S')]
      intro j hj
      have hfn : sect (slotSz S q) ≤ n - 1 := by
        simp only [fitsB, decide_eq_true_eq, Int.toNat_natCast] at hf
        omega
      have := h (1 + j) (by omega)
      rwa [← Nat.add_assoc] at this
    rw [hT]
  · rw [if_neg (fun q => hf q.1), if_neg (fun q => hf q.1)]
/-- The epoch that a slot tells lies in its first sector. -/
theorem slot_ep {S S' : List ByteArray} {q n e : Nat} {s : List UInt8} (h : S'[q]? = S[q]?) (hr : slotR S' q n = some (e, s)) : e = slotEp S q ∧ slotHead S q = headL e s := by
  rw [slotR] at hr
  split at hr
  · rename_i hc
    simp only [Option.some.injEq, Prod.mk.injEq] at hr
    obtain ⟨rfl, rfl⟩ := hr
    have hh := slotHead_same h
    exact ⟨by rw [slotEp, slotEp, hh], by rw [← hh]; exact hc.2⟩
  · cases hr
theorem slot_zero {S : List ByteArray} {q n : Nat} (h : S[q]? = some zsec) : slotR S q n = none := by
  have hh : slotHead S q = List.replicate 24 0 := by
    obtain ⟨hlt, he⟩ := List.getElem?_eq_some_iff.1 h
    have hs : secs S q 1 = List.replicate 256 0 := by
      have := secs_succ (S := S) (p := q) (k := 0) (by omega)
      simp only [Nat.add_zero] at this
      rw [this, he]
      rfl
    rw [slotHead, show sect 24 = 1 from rfl, hs, List.take_replicate]; rfl
  rw [slotR, if_neg]
  rintro ⟨_, hc⟩
  rw [hh, headL] at hc
  simp [markL, List.replicate_succ] at hc

/-- Where the sectors lie behind a Save. -/
def savedS (S : List ByteArray) (q ep : Nat) (st : List UInt8) : List ByteArray := puts (puts S (q + 1) (psecs st)) q (psecs (headL ep st))
theorem savedS_length (S : List ByteArray) (q ep : Nat) (st : List UInt8) : (savedS S q ep st).length = S.length := by rw [savedS, puts_length, puts_length]
theorem savedS_size {S : List ByteArray} {q ep : Nat} {st : List UInt8} (h : ∀ x ∈ S, x.size = 256) : ∀ x ∈ savedS S q ep st, x.size = 256 :=
  puts_size _ _ _ (puts_size _ _ _ h (psecs_size st)) (psecs_size _)
theorem head_one (ep : Nat) (st : List UInt8) : (psecs (headL ep st)).length = 1 := by rw [psecs_length, headL_length]; rfl
theorem savedS_get {S : List ByteArray} {q ep : Nat} {st : List UInt8} (hq : q + 1 + sect st.length ≤ S.length) (i : Nat) :
    (savedS S q ep st)[i]? = if i = q then (psecs (headL ep st))[0]? else if q + 1 ≤ i ∧ i < q + 1 + sect st.length then (psecs st)[i - (q + 1)]? else S[i]? := by
  rw [savedS, puts_get _ _ _ _ (by rw [puts_length, head_one]; omega), puts_get _ _ _ _ (by rw [psecs_length]; omega), head_one, psecs_length]
  by_cases hi : i = q
  · subst hi
    rw [if_pos (by omega), if_pos rfl, Nat.sub_self]
  · rw [if_neg (by omega), if_neg hi]
theorem savedS_slot {S : List ByteArray} {q n ep : Nat} {st : List UInt8} (hep : ep < 18446744073709551616) (hl : st.length < 18446744073709551616) (hf : fitsB n st.length = true) (hq : q + n ≤ S.length) : slotR (savedS S q ep st) q n = some (ep, st) := by
  have hfn : 1 ≤ n ∧ sect st.length ≤ n - 1 := by
    simp only [fitsB, decide_eq_true_eq, Int.toNat_natCast] at hf
    omega
  refine slot_laid hep hl hf ?_ ?_
  · rw [savedS_get (by omega), if_pos rfl]
  · intro j hj
    rw [savedS_get (by omega), if_neg (by omega), if_pos (by omega), show q + 1 + j - (q + 1) = j from by omega]
theorem savedS_other {S : List ByteArray} {q n ep : Nat} {st : List UInt8} (hf : fitsB n st.length = true) (hq : q + n ≤ S.length) {i : Nat} (hi : i < q ∨ q + n ≤ i) : (savedS S q ep st)[i]? = S[i]? := by
  have hfn : 1 ≤ n ∧ sect st.length ≤ n - 1 := by
    simp only [fitsB, decide_eq_true_eq, Int.toNat_natCast] at hf
    omega
  rw [savedS_get (by omega), if_neg (by omega), if_neg (by omega)]

/-- A Save on a device that lives. -/
theorem saveF_live {M : D} {q n ep : Nat} {st : List UInt8} (hM : Calm M) (hf : fitsB n st.length = true) (hq : q + n ≤ M.S.length) :
    saveF M q ep st = (0, { M with S := savedS M.S q ep st, L := savedS M.S q ep st }) := by
  have hfn : 1 ≤ n ∧ sect st.length ≤ n - 1 := by
    simp only [fitsB, decide_eq_true_eq, Int.toNat_natCast] at hf
    omega
  have h1 := wrsF_live (xs := psecs st) (M := M) (p := q + 1) hM.st (by rw [psecs_length]; omega) (psecs_size st)
  rw [saveF, h1, if_neg (by simp)]
  rw [wrsF_live (by exact hM.st) (by simp only [puts_length, head_one]; omega) (psecs_size _)]
  rw [hM.c, hM.l]
  simp only [List.nil_append, app_cws]
  rfl
theorem saveF_calm {M : D} {q ep : Nat} {st : List UInt8} (hM : Calm M) : Calm { M with S := savedS M.S q ep st, L := savedS M.S q ep st } := ⟨hM.st, hM.c, rfl, savedS_size hM.sz⟩

/-- A Save on a device that may fail, and a crash behind it. -/
theorem saveF_gen {M : D} {q n ep : Nat} {st : List UInt8} (hc : M.C = []) (hl : M.L = M.S) (hsz : ∀ x ∈ M.S, x.size = 256) (hf : fitsB n st.length = true) (hq : q + n ≤ M.S.length) :
    (∃ s k, saveF M q ep st = (0, { M with S := savedS M.S q ep st, L := savedS M.S q ep st, C := [], st := s, k := k })) ∨
    ((saveF M q ep st).1 = 50 ∧ (saveF M q ep st).2.C.length ≤ 4096 + n ∧ ∀ keep, ((saveF M q ep st).2.crash keep).L = savedS M.S q ep st ∨
      ((∀ i, i ≤ q ∨ q + n ≤ i → ((saveF M q ep st).2.crash keep).L[i]? = M.S[i]?) ∧ ((saveF M q ep st).2.crash keep).L.length = M.S.length ∧ ∀ x ∈ ((saveF M q ep st).2.crash keep).L, x.size = 256)) := by
  have hfn : 1 ≤ n ∧ sect st.length ≤ n - 1 := by
    simp only [fitsB, decide_eq_true_eq, Int.toNat_natCast] at hf
    omega
  have hpl : q + 1 + (psecs st).length ≤ M.S.length := by rw [psecs_length]; omega
  obtain ⟨s1, k1, S1, h | ⟨j, h⟩⟩ := wrsF_gen (psecs st) M (q + 1) hpl (psecs_size st)
  · rw [hc, hl, List.nil_append, app_cws] at h
    obtain ⟨s2, k2, S2, h2 | ⟨j, h2⟩⟩ := wrsF_gen (psecs (headL ep st)) { M with S := puts M.S (q + 1) (psecs st), L := puts M.S (q + 1) (psecs st), C := [], st := s1, k := k1 } q (by simp only [puts_length, head_one]; omega) (psecs_size _)
    · left
      refine ⟨s2, k2, ?_⟩
      rw [saveF, h, if_neg (by simp)]
      refine h2.trans ?_
      simp [app_cws, savedS]
    · right
      rw [saveF, h, if_neg (by simp)]
      rw [h2]
      refine ⟨rfl, ?_, ?_⟩
      · show ([] ++ (cws q (psecs (headL ep st))).take j).length ≤ _
        rw [List.nil_append, List.length_take]
        obtain ⟨x, hx⟩ : ∃ x, psecs (headL ep st) = [x] := List.length_eq_one_iff.1 (head_one ep st)
        rw [hx]
        simp [cws]
        omega
      · intro keep
        obtain ⟨x, hx⟩ : ∃ x, psecs (headL ep st) = [x] := List.length_eq_one_iff.1 (head_one ep st)
        have hkk : kept keep ([] ++ (cws q (psecs (headL ep st))).take j) = [] ∨ kept keep ([] ++ (cws q (psecs (headL ep st))).take j) = [(q, x)] := by
          rw [List.nil_append, hx]
          cases j with
          | zero => left; simp [kept]
          | succ j =>
            have e : (cws q [x]).take (j + 1) = [] ++ [(q, x)] := by simp [cws]
            rw [e, kept_snoc]
            by_cases hq : keep[0]?.getD false = true
            · right; simp [kept, hq]
            · left; simp [kept, hq]
        rcases hkk with hkk | hkk
        · right
          have e : (({ M with S := S2, L := puts M.S (q + 1) (psecs st), C := [] ++ (cws q (psecs (headL ep st))).take j, st := s2, k := k2 } : D).crash keep).L = puts M.S (q + 1) (psecs st) := by
            show app _ (kept keep _) = _
            rw [hkk]
            rfl
          refine ⟨fun i hi => ?_, ?_, ?_⟩
          · refine (congrArg (·[i]?) e).trans ?_
            rw [puts_get _ _ _ _ hpl, if_neg (by rw [psecs_length]; omega)]
          · exact (congrArg List.length e).trans (puts_length _ _ _)
          · intro x hx
            exact puts_size _ _ _ hsz (psecs_size st) x (e ▸ hx)
        · left
          show app _ (kept keep _) = _
          rw [hkk, savedS, hx]
          rfl
  · right
    have hlay : saveF M q ep st = (50, { M with S := S1, C := M.C ++ (cws (q + 1) (psecs st)).take j, st := s1, k := k1 }) := by
      rw [saveF, h, if_pos (by simp)]
    have hm : ∀ keep, ∀ z ∈ kept keep ((cws (q + 1) (psecs st)).take j), q + 1 ≤ z.1 ∧ z.2 ∈ psecs st := fun keep z hz => cws_mem (List.mem_of_mem_take (kept_mem hz))
    have hlen : ∀ (xs : List ByteArray) (p : Nat), (cws p xs).length = xs.length := by
      intro xs
      induction xs with
      | nil => intro p; rfl
      | cons a r ih => intro p; simp [cws, ih]
    have hup : ∀ (xs : List ByteArray) (p : Nat), ∀ z ∈ cws p xs, z.1 < p + xs.length := by
      intro xs
      induction xs with
      | nil => intro p z hz; simp [cws] at hz
      | cons a r ih =>
        intro p z hz
        rcases List.mem_cons.1 hz with rfl | hz
        · simp
        · have := ih (p + 1) z hz
          simp only [List.length_cons]
          omega
    rw [hlay]
    refine ⟨rfl, ?_, ?_⟩
    · show (M.C ++ (cws (q + 1) (psecs st)).take j).length ≤ _
      rw [hc, List.nil_append, List.length_take, hlen, psecs_length]
      omega
    · intro keep
      right
      have e : (({ M with S := S1, C := M.C ++ (cws (q + 1) (psecs st)).take j, st := s1, k := k1 } : D).crash keep).L = app M.S (kept keep ((cws (q + 1) (psecs st)).take j)) := by
        show app M.L (kept keep (M.C ++ _)) = _
        rw [hc, hl, List.nil_append]
      refine ⟨fun i hi => ?_, ?_, ?_⟩
      · refine (congrArg (·[i]?) e).trans ?_
        refine app_other _ _ _ fun z hz => ?_
        have h1 := (hm keep z hz).1
        have h2 := hup _ _ z (List.mem_of_mem_take (kept_mem hz))
        rw [psecs_length] at h2
        omega
      · exact (congrArg List.length e).trans (app_length _ _)
      · intro x hx
        exact app_size _ _ hsz (fun z hz => psecs_size st _ (hm keep z hz).2) x (e ▸ hx)

/-- The newest state is the one that is loaded. -/
theorem load_newest {S : List ByteArray} {p n ep : Nat} {st : List UInt8} (h1 : slotR S (p + ep % 2 * n) n = some (ep, st)) (h2 : ∀ e s, slotR S (p + (ep + 1) % 2 * n) n = some (e, s) → e < ep) : loadF S p n = some (ep, st) := by
  rcases (by omega : ep % 2 = 0 ∨ ep % 2 = 1) with h0 | h0
  · have h3 : (ep + 1) % 2 = 1 := by omega
    rw [h0, Nat.zero_mul, Nat.add_zero] at h1
    rw [h3, Nat.one_mul] at h2
    have hq : slotQ S p n 0 = some (ep, st) := by simp [slotQ, h1, h0]
    rw [loadF, hq, slotQ]
    rcases hr : slotR S (p + n) n with _ | ⟨e, s⟩
    · rfl
    · have := h2 e s hr
      show better (some (ep, st)) (if e % 2 = 1 then some (e, s) else none) = _
      split
      · simp [better, this]
      · rfl
  · have h3 : (ep + 1) % 2 = 0 := by omega
    rw [h0, Nat.one_mul] at h1
    rw [h3, Nat.zero_mul, Nat.add_zero] at h2
    have hq : slotQ S (p + n) n 1 = some (ep, st) := by simp [slotQ, h1, h0]
    rw [loadF, hq, slotQ]
    rcases hr : slotR S p n with _ | ⟨e, s⟩
    · rfl
    · have := h2 e s hr
      show better (if e % 2 = 0 then some (e, s) else none) (some (ep, st)) = _
      split
      · simp only [better]
        rw [if_neg (by omega)]
      · rfl
theorem load_none {S : List ByteArray} {p n : Nat} (h1 : slotR S p n = none) (h2 : slotR S (p + n) n = none) : loadF S p n = none := by
  simp [loadF, slotQ, h1, h2, better]
end Go.Proofs.Ytecljiefljgfmaa
/-
  The law's awake over snap: true, whatever the world.
-/
namespace Go.Proofs.Ytecljiefljgfmaa
open Go.RowKit

theorem new_calm (n : Nat) : Calm (D.new n blank) := by
  refine ⟨rfl, rfl, rfl, ?_⟩
  intro x hx
  have : x = blank := by simpa [D.new] using (List.mem_replicate.1 hx).2
  subst this
  exact zsec_size
theorem new_get {n i : Nat} (h : i < n) : (D.new n blank).S[i]? = some zsec := by
  show (List.replicate n blank)[i]? = _
  rw [List.getElem?_replicate, if_pos h]
  rfl
theorem abc_saved : loadF (savedS (D.new 8 blank).S 4 1 [97, 98, 99]) 0 4 = some (1, [97, 98, 99]) := by
  have hf : fitsB 4 (([97, 98, 99] : List UInt8).length) = true := by decide
  refine load_newest (by exact savedS_slot (by decide) (by decide) hf (by simp [D.new])) ?_
  intro e s hr
  rw [slot_same (S := (D.new 8 blank).S) (by intro j hj; exact savedS_other hf (by simp [D.new]) (by omega)) (by omega), slot_zero (new_get (by decide))] at hr
  cases hr

set_option maxHeartbeats 2000000 in
set_option maxRecDepth 20000 in
theorem awakeS_any (w : World) : Calls Try.prog 30 #[] w fun e w' => e = .returned (.bool true) ∧ Below w.heap.size w w' := by
  have hnew := new_ok 8 w (by omega) (by omega)
  rw [show ((8 : Nat) : Int) = 8 from rfl] at hnew
  go_enter Try.func30, Try.ntmps30
  go_wp2_with fail
  refine Calls.mono hnew ?_
  rintro e w1 ⟨d, rfl, hD1, hb1⟩
  have hld := load_any d 0 4 w1 _ _ hD1 (by simp [D.new]) (new_calm 8).sz (by omega) (by simp [D.new])
  rw [load_none (slot_zero (new_get (by omega))) (slot_zero (new_get (by omega)))] at hld
  rw [show ((0 : Nat) : Int) = 0 from rfl, show ((4 : Nat) : Int) = 4 from rfl] at hld
  go_wp2_with fail
  refine Calls.mono hld ?_
  rintro e w2 ⟨he, hb2⟩
  obtain rfl : e = .returned (.tuple #[.slice none 0 0, .int .u64 0, .int .i64 61]) := he
  obtain ⟨w3, hw3⟩ : ∃ w3, w3 = w2.alloc (.cells #[.int .u8 97, .int .u8 98, .int .u8 99] 5 (3, 4)) := ⟨_, rfl⟩
  have hcvt : (convert 50 50 (.slice (some ⟨w2.heap.size, 0, none⟩) 3 3)).run Try.prog (w2.alloc (.cells #[.int .u8 97, .int .u8 98, .int .u8 99] 5)) = .ok (.slice (some ⟨w2.heap.size, 0, none⟩) 3 3) w3 := by
    rw [hw3]
    exact Lib.run_convert_bytes_const w2 50 5 #[.int .u8 97, .int .u8 98, .int .u8 99] 3 3 Try.underlying50 Try.underlying5
  have hb23 : Below w2.heap.size w2 w3 := by rw [hw3]; exact (Below.refl _ _).alloc (Nat.le_refl _) _
  have hmk : Bytes w3 (some ⟨w2.heap.size, 0, none⟩) [97, 98, 99] := by
    have hn3 : w3.heap[w2.heap.size]? = some (.cells #[.int .u8 97, .int .u8 98, .int .u8 99] 5 (3, 4)) := by rw [hw3]; exact heap_alloc_new w2 _
    refine .inr ⟨_, 0, rfl, (Array.getElem?_eq_some_iff.1 hn3).1, fun j hj => ?_⟩
    have hj4 : j < 3 := hj
    rcases (by omega : j = 0 ∨ j = 1 ∨ j = 2) with rfl | rfl | rfl <;> simp [World.cell?, hn3]
  have hb13 : Below w1.heap.size w1 w3 := hb2.trans (hb23.mono hb2.size)
  have hf : fitsB 4 (([97, 98, 99] : List UInt8).length) = true := by decide
  have hsv := save_ok d 0 4 1 4 (some ⟨w2.heap.size, 0, none⟩) [97, 98, 99] 3 w3 _ _ (hD1.below hb13) (by omega) (by simp [D.new]) hf (by omega) (by omega) hmk (by
    intro _ ad e
    simp only [Option.some.injEq] at e
    subst e
    have := hb2.size
    simp
    omega) (by simp) (by simp) (by simp [D.new])
  rw [saveF_live (n := 4) (new_calm 8) hf (by simp [D.new])] at hsv
  have hsv2 : Calls Try.prog 31 #[.pointer (some ⟨d, 0, none⟩), .int .i64 0, .int .i64 4, .int .u64 1, .slice (some ⟨w2.heap.size, 0, none⟩) 3 3] w3 fun e w' => e = .returned (.int .i64 0) ∧ Below w.heap.size w w' ∧ Calls Try.prog 33 #[.pointer (some ⟨d, 0, none⟩), .int .i64 0, .int .i64 4] w' fun e w'' => ∃ a c, e = .returned (.tuple #[.slice a 3 c, .int .u64 1, .int .i64 0]) ∧ Bytes w'' a [97, 98, 99] ∧ Below w.heap.size w w'' := by
    refine Calls.mono hsv ?_
    rintro e w4 ⟨rfl, hD4, hT4⟩
    have hb03 : Below w.heap.size w w3 := hb1.trans (hb13.mono hb1.size)
    have hb4 : Below w.heap.size w w4 := hb03.trans (hT4.below (by intro k hk; exact hk.1) hb03.size)
    refine ⟨rfl, hb4, ?_⟩
    refine Calls.mono (load_any d 0 4 w4 _ _ hD4 (by simp [D.new]) (saveF_calm (new_calm 8)).sz (by omega) (by simp [savedS_length, D.new])) ?_
    rintro e w5 ⟨hl5, hb5⟩
    rw [show loadF ({ D.new 8 blank with S := savedS (D.new 8 blank).S 4 1 [97, 98, 99], L := savedS (D.new 8 blank).S 4 1 [97, 98, 99] } : D).S 0 4 = some (1, [97, 98, 99]) from abc_saved] at hl5
    obtain ⟨a, c, rfl, hby, _⟩ := hl5
    exact ⟨a, c, rfl, hby, hb4.trans (hb5.mono hb4.size)⟩
  have hf1 : ∀ q, Calls Try.prog 35 #[.int .i64 2, .int .i64 256] q fun e w' => e = .returned (.bool true) ∧ q = w' := fun q => fits_any 2 256 q (by omega) (by omega)
  have hf2 : ∀ q, Calls Try.prog 35 #[.int .i64 2, .int .i64 257] q fun e w' => e = .returned (.bool false) ∧ q = w' := fun q => fits_any 2 257 q (by omega) (by omega)
  clear hsv hld hD1 hb1 hb2 hmk hb13 hb23 hw3 hnew
  go_wp2_with (first
    | (go_at_call 31; (with_reducible refine Calls.mono hsv2 ?_); rintro e w4 ⟨rfl, hb4, hl4⟩)
    | (go_at_call 33; (with_reducible refine Calls.mono hl4 ?_); rintro e w5 ⟨a, c, rfl, hby5, hb5⟩; have hcs := convert_bytes w5 a c [97, 98, 99] hby5; rw [show ([97, 98, 99] : List UInt8).length = 3 from rfl] at hcs)
    | (go_at_call 35; (with_reducible refine Calls.mono (hf1 _) ?_); rintro e w6 ⟨rfl, rfl⟩)
    | (go_at_call 35; (with_reducible refine Calls.mono (hf2 _) ?_); rintro e w6 ⟨rfl, rfl⟩))
  go_ret
  exact ⟨rfl, hb5⟩
end Go.Proofs.Ytecljiefljgfmaa

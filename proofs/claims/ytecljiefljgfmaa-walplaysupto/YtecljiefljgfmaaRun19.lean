/-
  'append' of noughts to a full slice of bytes: a new row.
-/
import Derived.Test.YtecljiefljgfmaaRun06
import Derived.Test.YtecljiefljgfmaaOpen
namespace Go.Proofs.Ytecljiefljgfmaa
open Go.RowKit

theorem run_append_grow_zeros (w : World) (b : Addr) (sLen sCap : Nat) (olds : List Value) (hlo : olds.length = sLen) (holds : ∀ j v, olds[j]? = some v → w.cell? (b.add j) = some v) (n : Nat) (h0 : 0 < n) (hg : sCap < sLen + n) (h63 : sLen + n ≤ 100000000) (ty : TypeId) :
    (Builtin.append_ #[50, 3] ty #[.slice (some b) sLen sCap, .int .i64 (n : Int)]).run Try.prog w =
      .ok (.slice (some ⟨w.heap.size, 0, none⟩) (sLen + n) (grownCap w (sLen + n) sCap 5)) (w.drew.alloc (.cells (olds.toArray ++ Builtin.zeroCells (Value.int .u8 0).cells n ++ Builtin.zeroCells (Value.int .u8 0).cells (grownCap w (sLen + n) sCap 5 - (sLen + n))) 5)) := by
  obtain ⟨i, hi, hz, hz1, hz2⟩ := info_parts info5
  have hn : ¬ (sLen + n ≤ sCap) := by omega
  have hw : IntKind.i64.wrap (n : Int) = n := by rw [IntKind.wrap_i64]; omega
  have h63' : ¬ (9223372036854775807 < ((sLen : Int) + (n : Int))) := by omega
  have hfit : Builtin.nextslicecap (sLen + n) sCap * i.bytes ≤ 281474976710656 := by
    rw [hz2]
    have := growslice_fits (need := sLen + n) (old := sCap) (bytes := 1) (by omega) (by omega)
    simpa using this
  have h48' : ¬ (281474976710656 < Builtin.nextslicecap (sLen + n) sCap * i.bytes) := by omega
  have h48i : ¬ (281474976710656 < (n : Int) * (i.bytes : Int)) := by rw [hz2]; omega
  have hneg : ¬ ((n : Int) < 0) := by omega
  have hns : ¬ (n * i.size = 0) := by rw [hz1]; omega
  have hfo := run_firstCells_some (P := Try.prog) w.drew i.size sLen b sLen sCap olds (by rw [hz1, Nat.mul_one]; exact hlo) (by simpa using holds)
  simp [Builtin.append_, run_underlying Try.underlying50, run_underlying Try.underlying3, sizeOf, typeInfo, zeroValue, hi, hz, asInt, asIntOf, hw, hneg, hns, hn, h63', h48', h48i, Question.forced, hfo, newRow, grownCap]

/-- The same, told by bytes. -/
theorem append_zeros (w : World) (b o len : Nat) (xs : List UInt8) (hl : xs.length = len) (hx : Bytes w (some ⟨b, o, none⟩) xs) (n : Nat) (h0 : 0 < n) (h63 : len + n ≤ 100000000) :
    ∃ c w', (∀ ty, (Builtin.append_ #[50, 3] ty #[.slice (some ⟨b, o, none⟩) len len, .int .i64 (n : Int)]).run Try.prog w = .ok (.slice (some ⟨w.heap.size, 0, none⟩) (len + n) c) w') ∧ Bytes w' (some ⟨w.heap.size, 0, none⟩) (xs ++ List.replicate n 0) ∧ len + n ≤ c ∧ Below w.heap.size w w' := by
  obtain ⟨c, hc⟩ : ∃ c, c = grownCap w (len + n) len 5 := ⟨_, rfl⟩
  have hge : len + n ≤ c := by rw [hc]; exact grownCap_ge _ _ _ _
  refine ⟨c, w.drew.alloc (.cells ((bcs xs).toArray ++ Builtin.zeroCells (Value.int .u8 0).cells n ++ Builtin.zeroCells (Value.int .u8 0).cells (c - (len + n))) 5), ?_, ?_, hge, ((Below.refl _ w).drew).alloc (Nat.le_refl _) _⟩
  · intro ty
    rw [hc]
    exact run_append_grow_zeros w ⟨b, o, none⟩ len len (bcs xs) (by rw [bcs_length, hl]) hx.cells n h0 (by omega) h63 ty
  · refine .inr ⟨w.heap.size, 0, rfl, by simp, ?_⟩
    intro j hj
    have hblk := heap_alloc_new w.drew (.cells ((bcs xs).toArray ++ Builtin.zeroCells (Value.int .u8 0).cells n ++ Builtin.zeroCells (Value.int .u8 0).cells (c - (len + n))) 5)
    have e := cell_blk (w := w.drew.alloc (.cells ((bcs xs).toArray ++ Builtin.zeroCells (Value.int .u8 0).cells n ++ Builtin.zeroCells (Value.int .u8 0).cells (c - (len + n))) 5)) (g := w.heap.size) hblk (0 + j)
    rw [e, Nat.zero_add]
    rw [List.length_append, List.length_replicate] at hj
    rw [Array.getElem?_append_left (by rw [Array.size_append, zeroCells_size]; simp [bcs_length]; omega)]
    by_cases hjx : j < xs.length
    · rw [Array.getElem?_append_left (by simp [bcs_length]; omega), List.getElem?_toArray, bcs_get hjx, List.getElem_append_left hjx]
    · rw [Array.getElem?_append_right (by simp [bcs_length]; omega), List.getElem_append_right (by omega)]
      have h1 : j - xs.length < n := by omega
      simp [Builtin.zeroCells, Value.cells, bcs_length, h1, Nat.mod_one]
end Go.Proofs.Ytecljiefljgfmaa
/-
  The sectors that the records' frame takes: seal by its contract.
-/
namespace Go.Proofs.Ytecljiefljgfmaa
open Go.RowKit

def bodyL (g : G) (L : List ByteArray) : List UInt8 := stampL g ++ packL L
def leadN (g : G) (L : List ByteArray) : Nat := tot L * 4294967296 + crcN (bodyL g L)
def frameB (g : G) (L : List ByteArray) : List UInt8 := be (leadN g L) 8 ++ bodyL g L
def padB (g : G) (L : List ByteArray) : List UInt8 := frameB g L ++ List.replicate (256 * needN L - (24 + tot L)) 0
theorem bodyL_length (g : G) (L : List ByteArray) : (bodyL g L).length = 16 + tot L := by rw [bodyL, List.length_append, stampL_length, packL_length]
theorem frameB_length (g : G) (L : List ByteArray) : (frameB g L).length = 24 + tot L := by rw [frameB, List.length_append, be_length, bodyL_length]; omega
theorem need_ge (L : List ByteArray) : 24 + tot L ≤ 256 * needN L := sect_le _
theorem padB_length (g : G) (L : List ByteArray) : (padB g L).length = 256 * needN L := by
  rw [padB, List.length_append, frameB_length, List.length_replicate]
  have := need_ge L
  omega
theorem or_half (n c : Nat) (hn : n < 4294967296) (hc : c < 4294967296) : bits .or .u64 ((n : Int) * 4294967296) (c : Int) = ((n * 4294967296 + c : Nat) : Int) := by
  have e : ((n : Int) * 4294967296) = ((n * 4294967296 : Nat) : Int) := by omega
  rw [e, bits_or_u64_nat _ _ (by omega) (by omega)]
  have h := Nat.shiftLeft_add_eq_or_of_lt (i := 32) (b := c) (by omega) n
  rw [Nat.shiftLeft_eq] at h
  rw [show n * 4294967296 = n * 2 ^ 32 from rfl, ← h]
/-- Bytes copied to the head of a row of noughts. -/
theorem copy_head (w : World) (ty : TypeId) (g N sLen sCap : Nat) (a : Addr) (m : List UInt8) (hg : w.heap[g]? = some (.cells (bcs (List.replicate N 0)).toArray 5 (0, 0))) (hm : m.length = sLen) (hN : sLen ≤ N) (hsrc : ∀ j u, (bcs m)[j]? = some u → w.cell? (a.add j) = some u) :
    ∃ w', (Builtin.copy_ #[50, 50] ty #[.slice (some ⟨g, 0, none⟩) N N, .slice (some a) sLen sCap]).run Try.prog w = .ok (goInt sLen) w' ∧ w'.heap[g]? = some (.cells (bcs (m ++ List.replicate (N - sLen) 0)).toArray 5 (0, 0)) ∧ w.grownBy w' (some g) := by
  subst hm
  have hl : (bcs m).length = m.length := bcs_length m
  have hrun := run_copy_row (P := Try.prog) w 50 50 ty 5 g 0 N N a m.length sCap (bcs (List.replicate N 0)).toArray 5 (bcs m) Try.underlying50 size5 hg (by rw [hl]; exact (Nat.min_eq_left hN).symm) hsrc (by simp [bcs]; exact hN) (bcs_one _)
  rw [hl] at hrun
  refine ⟨_, hrun, ?_, ⟨rfl, rfl, rfl, by simp, fun k hk hne => setRow_other w g k _ (by intro e; subst e; exact hne rfl)⟩⟩
  rw [setRow_heap w g _ _ 5 _ hg]
  have e : (bcs (List.replicate N 0)).toArray.toList.take 0 ++ bcs m ++ (bcs (List.replicate N 0)).toArray.toList.drop (0 + m.length) = bcs (m ++ List.replicate (N - m.length) 0) := by
    simp [bcs, List.drop_replicate]
  exact congrArg (fun x => some (Obj.cells (List.toArray x) 5 (0, 0))) e

set_option maxHeartbeats 4000000 in
set_option maxRecDepth 100000 in
theorem seal_any (l d : Nat) (g : G) (a : Option Addr) (L : List ByteArray) (cap : Nat) (w : World) (hL : LogV w l d g) (hok : g.Ok) (hs : Strs w a L) (hn : needN L ≤ 4096) :
    Calls Try.prog 48 #[.pointer (some ⟨l, 0, none⟩), .slice a L.length cap] w fun e w' => ∃ b, e = .returned (.slice (some ⟨b, 0, none⟩) (256 * needN L) (256 * needN L)) ∧ w'.heap[b]? = some (.cells (bcs (padB g L)).toArray 5 (0, 0)) ∧ w.heap.size ≤ b ∧ Below w.heap.size w w' := by
  have hge := need_ge L
  have htot : tot L ≤ 1048552 := by omega
  have hlt : l < w.heap.size := (Array.getElem?_eq_some_iff.1 hL).1
  have hpk := pack_any a L cap w (by omega) hs
  have HS : Hid (Strs w a L) := hs
  have HLB : Hid (∀ q, Below w.heap.size w q → LogV q l d g) := fun q hq => (hq.block l hlt).trans hL
  have HOK : Hid g.Ok := hok
  obtain ⟨i0, hi, hz0, hz1, hz2⟩ := info_parts info5
  obtain ⟨t, ht⟩ : ∃ t, t = tot L := ⟨_, rfl⟩
  obtain ⟨N, hN⟩ : ∃ N, N = needN L := ⟨_, rfl⟩
  rw [← ht] at htot
  have HT : Hid (t = tot L) := ht
  have HN : Hid (N = needN L) := hN
  have hN4 : N ≤ 4096 := by omega
  have hN1 : 24 + t ≤ 256 * N := by omega
  clear hL hs hok hge hn ht hN
  go_enter Try.func48, Try.ntmps48
  go_wp2_with fail
  refine Calls.mono hpk ?_
  rintro e w1 ⟨v1, rfl, ho1, hb1⟩
  clear hpk
  obtain ⟨pa, pc, rfl, hby1, hno1, hlc1, hob1⟩ := ho1.open
  rw [packL_length, ← HT.out] at hlc1 hob1 ⊢
  have HB1 : Hid (Below w.heap.size w w1) := hb1
  have HY1 : Hid (Bytes w1 pa (packL L) ∧ (pa = none → pc = 0)) := ⟨hby1, hno1⟩
  clear ho1 hby1 hno1 hb1 hob1 hlc1
  have hst := stamp_any l d g w1 (HLB.out w1 HB1.out) HOK.out
  go_wp2_with fail
  refine Calls.mono hst ?_
  rintro e w2 ⟨v2, rfl, ho2, hb2⟩
  obtain ⟨sa, sc, rfl, hby2, hno2, _⟩ := ho2.open
  rw [stampL_length]
  have HB2 : Hid (Below w.heap.size w w2) := HB1.out.trans (hb2.mono HB1.out.size)
  have HY2 : Hid (Bytes w2 pa (packL L)) := HY1.out.1.below hb2 (Nat.le_refl _)
  have hr2 : Rws (w2.alloc (.cells #[.slice sa 16 sc, .slice pa t pc] 50)) w2.heap.size [⟨sa, stampL g, sc⟩, ⟨pa, packL L, pc⟩] := two_rows (by simp only [Sl.v, stampL_length, packL_length, ← HT.out]) hby2 hno2 HY2.out HY1.out.2
  have hcat : cat [⟨sa, stampL g, sc⟩, ⟨pa, packL L, pc⟩] = bodyL g L := by simp [cat, bodyL]
  have hcc := concat_any w2.heap.size [⟨sa, stampL g, sc⟩, ⟨pa, packL L, pc⟩] 2 _ hr2 (by simp) (by rw [hcat, bodyL_length, ← HT.out]; omega)
  rw [hcat] at hcc
  clear ho2 hb2 hby2 hno2 hr2 hcat hst
  go_wp2_with fail
  refine Calls.mono hcc ?_
  rintro e w3 ⟨v3, rfl, ho3, hb3⟩
  have hB2a : Below w.heap.size w (w2.alloc (.cells #[.slice sa 16 sc, .slice pa t pc] 50)) := HB2.out.alloc HB2.out.size _
  have HB3 : Hid (Below w.heap.size w w3) := hB2a.trans (hb3.mono hB2a.size)
  obtain ⟨ba, bc, rfl, hby3, hno3, _⟩ := ho3.open
  rw [bodyL_length, ← HT.out]
  have HY3 : Hid (Bytes w3 ba (bodyL g L) ∧ (ba = none → bc = 0)) := ⟨hby3, hno3⟩
  have hcr := crc_any ba (bodyL g L) bc w3 (by rw [bodyL_length, ← HT.out]; omega) hby3
  rw [bodyL_length, ← HT.out] at hcr
  obtain ⟨cv, hcv⟩ : ∃ cv, cv = crcN (bodyL g L) := ⟨_, rfl⟩
  have hW : W (crcL (bodyL g L)) = (cv : Int) := by rw [hcv]; rfl
  rw [hW] at hcr
  have hcv4 : cv < 4294967296 := by rw [hcv]; exact crcN_lt _
  obtain ⟨ld, hld⟩ : ∃ ld, ld = leadN g L := ⟨_, rfl⟩
  have hor : bits .or .u64 ((t : Int) * 4294967296) (cv : Int) = (ld : Int) := by rw [or_half t cv (by omega) hcv4, hld, leadN, ← HT.out, ← hcv]
  have hld8 : ld < 18446744073709551616 := by rw [hld, leadN, ← HT.out, ← hcv]; omega
  have HLD : Hid (ld = leadN g L) := hld
  clear ho3 hb3 hby3 hno3 hcc hB2a hW hcv hld
  go_upto_region 4 with (go_at_call 78; refine Calls.mono hcr ?_; rintro e w4 ⟨rfl, hb4⟩)
  have HB4 : Hid (Below w.heap.size w w4) := HB3.out.trans (hb4.mono HB3.out.size)
  have HY4 : Hid (Bytes w4 ba (bodyL g L)) := HY3.out.1.below hb4 (Nat.le_refl _)
  have hne := need_any a L cap w4 (by rw [← HT.out]; omega) (HS.out.below HB4.out (Nat.le_refl _))
  rw [← HN.out] at hne
  obtain ⟨NN, hNN⟩ : ∃ NN, NN = 256 * N := ⟨_, rfl⟩
  have hNN2 : (N : Int) * 256 = (NN : Int) := by omega
  have hNNb : NN ≤ 1048576 := by omega
  have hNNt : 24 + t ≤ NN := by omega
  have hm5 : i0.bytes * NN ≤ 281474976710656 := by rw [hz2]; omega
  have HNN : Hid (NN = 256 * N) := hNN
  clear hb4 hcr hor hcv4 hNN
  go_upto_region 5 with (first
    | (go_at_call 17; refine Calls.mono hne ?_; rintro e w4' ⟨rfl, rfl⟩)
    | (at_make; refine wpList_make_full _ rfl _ _ 50 rfl w4.heap.size 5 i0 (.int .u8 0) 1 Try.underlying50 hi hz0 hz1 _ _ _ _ NN rfl rfl (by first | rfl | omega) (by first | rfl | omega) hm5 (by unfold maxLen; omega) (Nat.le_refl _) ?_; intro w5 ho5 hg5; rw [made_bytes] at ho5))
  have hb5 : Below w4.heap.size w4 w5 := (Below.refl _ _).grown hg5 (Nat.le_refl _) (by simp)
  have hrow5 := row_full ho5
  have hlt5 := (Array.getElem?_eq_some_iff.1 hrow5).1
  obtain ⟨gb, hgb⟩ : ∃ gb, gb = w4.heap.size := ⟨_, rfl⟩
  rw [← hgb] at hrow5 hlt5 ⊢
  have HB5 : Hid (Below w.heap.size w w5) := HB4.out.trans (hb5.mono HB4.out.size)
  have HY5 : Hid (Bytes w5 ba (bodyL g L)) := HY4.out.below hb5 (Nat.le_refl _)
  have HROW : Hid (w5.heap[gb]? = some (.cells (bcs (List.replicate NN 0)).toArray 5 (0, 0)) ∧ gb < w5.heap.size ∧ w.heap.size ≤ gb) := ⟨hrow5, hlt5, by rw [hgb]; exact HB4.out.size⟩
  have hpu := put64_any ld w5 hld8
  clear hne ho5 hg5 hb5 hrow5 hlt5 hgb
  go_wp2_with fail
  refine Calls.mono hpu ?_
  rintro e w6 ⟨v6, rfl, ho6, hb6⟩
  obtain ⟨qa, qc, rfl, hby6, hno6, _⟩ := ho6.open
  rw [be_length]
  have HB6 : Hid (Below w.heap.size w w6) := HB5.out.trans (hb6.mono HB5.out.size)
  have HY6 : Hid (Bytes w6 ba (bodyL g L)) := HY5.out.below hb6 (Nat.le_refl _)
  have hr6 : Rws (w6.alloc (.cells #[.slice qa 8 qc, .slice ba (16 + t) bc] 50)) w6.heap.size [⟨qa, be ld 8, qc⟩, ⟨ba, bodyL g L, bc⟩] := two_rows (by simp only [Sl.v, be_length, bodyL_length, ← HT.out]) hby6 hno6 HY6.out HY3.out.2
  have hcat : cat [⟨qa, be ld 8, qc⟩, ⟨ba, bodyL g L, bc⟩] = frameB g L := by simp [cat, frameB, HLD.out]
  have hcc := concat_any w6.heap.size [⟨qa, be ld 8, qc⟩, ⟨ba, bodyL g L, bc⟩] 2 _ hr6 (by simp) (by rw [hcat, frameB_length, ← HT.out]; omega)
  rw [hcat] at hcc
  have HBW : Hid (Below w5.heap.size w5 w6) := hb6
  clear ho6 hb6 hby6 hno6 hr6 hcat hpu
  have hfin : ∀ w7 v7, Own w7 (w6.alloc (.cells #[.slice qa 8 qc, .slice ba (16 + t) bc] 50)).heap.size v7 (frameB g L) → Below (w6.alloc (.cells #[.slice qa 8 qc, .slice ba (16 + t) bc] 50)).heap.size (w6.alloc (.cells #[.slice qa 8 qc, .slice ba (16 + t) bc] 50)) w7 →
      ∃ gf fc w8, v7 = .slice (some ⟨gf, 0, none⟩) (24 + t) fc ∧ (Builtin.copy_ #[50, 50] 3 #[.slice (some ⟨gb, 0, none⟩) NN NN, .slice (some ⟨gf, 0, none⟩) (24 + t) fc]).run Try.prog w7 = .ok (goInt (24 + t)) w8 ∧ w8.heap[gb]? = some (.cells (bcs (padB g L)).toArray 5 (0, 0)) ∧ Below w.heap.size w w8 := by
    intro w7 v7 ho7 hb7
    obtain ⟨gf, fc, rfl, hfc, hgf1, hgf2⟩ := ho7.addr (by rw [frameB_length]; omega)
    have hB6a : Below w.heap.size w (w6.alloc (.cells #[.slice qa 8 qc, .slice ba (16 + t) bc] 50)) := HB6.out.alloc HB6.out.size _
    have hB7 : Below w.heap.size w w7 := hB6a.trans (hb7.mono hB6a.size)
    have hz6 := HBW.out.size
    have hgb6 : gb < w6.heap.size := by have := HROW.out.2.1; omega
    have hrow7 : w7.heap[gb]? = some (.cells (bcs (List.replicate NN 0)).toArray 5 (0, 0)) := by
      rw [hb7.block gb (by simp; omega), Below.heap_alloc _ _ _ hgb6, HBW.out.block gb HROW.out.2.1]
      exact HROW.out.1
    rw [frameB_length, ← HT.out]
    obtain ⟨w8, e1, e2, e3⟩ := copy_head w7 3 gb NN (24 + t) fc ⟨gf, 0, none⟩ (frameB g L) hrow7 (by rw [frameB_length, ← HT.out]) hNNt (fun j u hj => World.ownsRow.cells ho7 (g := gf) rfl j u hj)
    refine ⟨gf, fc, w8, rfl, e1, ?_, hB7.grown e3 hB7.size (fun k e => by simp only [Option.some.injEq] at e; have := HROW.out.2.2; omega)⟩
    rw [e2, padB, ← HT.out, ← HN.out, ← HNN.out]
  have HFIN := (show Hid _ from hfin)
  clear hfin
  go_wp2_with fail
  refine Calls.mono hcc ?_
  rintro e w7 ⟨v7, rfl, ho7, hb7⟩
  obtain ⟨gf, fc, w8, rfl, hcp, hrow8, hB8⟩ := HFIN.out w7 v7 ho7 hb7
  have HR8 : Hid (w8.heap[gb]? = some (.cells (bcs (padB g L)).toArray 5 (0, 0)) ∧ Below w.heap.size w w8) := ⟨hrow8, hB8⟩
  clear ho7 hb7 hrow8 hB8 HFIN hcc
  go_wp2
  go_ret
  exact ⟨gb, by rw [← HN.out, ← HNN.out]; rfl, HR8.out.1, HROW.out.2.2, HR8.out.2⟩
end Go.Proofs.Ytecljiefljgfmaa

/-
  A log told by plain numbers; its small functions by their contracts.
-/
import Derived.Test.YtecljiefljgfmaaRun04
import Derived.Test.YtecljiefljgfmaaRun05
import Derived.Test.YtecljiefljgfmaaRun01
import Derived.Test.YtecljiefljgfmaaRun02
import Derived.Test.YtecljiefljgfmaaRun06
import Derived.BigRegion
import Derived.Test.YtecljiefljgfmaaRun11
import Derived.Test.YtecljiefljgfmaaRun12
import Derived.Test.YtecljiefljgfmaaRun07
namespace Go.Proofs.Ytecljiefljgfmaa
open Go.RowKit

structure G where
  at' : Nat
  fin : Nat
  ep : Nat
  nx : Nat
  fl : Bool

/-- How a log lies in memory. -/
def LogV (w : World) (l d : Nat) (g : G) : Prop :=
  w.heap[l]? = some (.cells #[.pointer (some ⟨d, 0, none⟩), .int .i64 (g.at' : Int), .int .i64 (g.fin : Int), .int .u64 (g.ep : Int), .int .u64 (g.nx : Int), .bool g.fl] 88 (0, 0))

structure G.Ok (g : G) : Prop where
  le : g.at' ≤ g.fin
  top : g.fin ≤ 4096
  ep : g.ep < 18446744073709551616
  nx : g.nx < 4294967296

def needN (L : List ByteArray) : Nat := sect (24 + tot L)

set_option maxHeartbeats 1000000 in
theorem need_any (a : Option Addr) (L : List ByteArray) (cap : Nat) (w : World) (hr : tot L ≤ 140737488355328) (hs : Strs w a L) :
    Calls Try.prog 17 #[.slice a L.length cap] w fun e w' => e = .returned (.int .i64 (needN L : Int)) ∧ w = w' := by
  have hll : L.length ≤ tot L := by
    clear hr hs
    induction L with
    | nil => simp [tot]
    | cons x r ih => simp only [List.length_cons, tot]; omega
  have hse := count_any (24 + tot L) w (by omega)
  have HSE := (show Hid _ from hse)
  clear hse
  go_enter Try.func17, Try.ntmps17
  go_wp2
  go_loop [3, 8] (fun n i => ∃ k : Nat, k ≤ L.length ∧ i = .int .i64 k ∧ n = .int .i64 ((24 + tot (L.take k) : Nat) : Int)) (fun _ i => L.length - (intOf i).toNat)
  case atStart => exact ⟨0, Nat.zero_le _, rfl, rfl⟩
  case round =>
    obtain ⟨k, hk, rfl, rfl⟩ := hrel
    have htk := tot_take L k
    by_cases hlt : k < L.length
    · obtain ⟨b, off, rfl, hbl, hcs⟩ := hs.at hlt
      have hcell : w.cell? ⟨b, off + k, none⟩ = some (.string L[k]) := hcs k hlt
      have HS : Hid (tot (L.take (k + 1)) = tot (L.take k) + (4 + L[k].size)) := tot_snoc L k hlt
      have ht2 : tot (L.take k) + (4 + L[k].size) ≤ tot L := by rw [← HS.out]; exact tot_take L (k + 1)
      clear hcs
      go_wp2
      go_round
      case rel => exact ⟨k + 1, by omega, by go_num, by rw [HS.out]; go_num⟩
      case measure => simp [intOf]; omega
    · have hkl : k = L.length := by omega
      subst hkl
      rw [List.take_length]
      clear htk hlt hk
      go_wp2_with fail
      refine Calls.mono HSE.out ?_
      rintro e w' ⟨rfl, rfl⟩
      go_wp2
      go_ret
      exact ⟨rfl, rfl⟩

theorem room_any (l d : Nat) (g : G) (w : World) (h : LogV w l d g) (hok : g.Ok) :
    Calls Try.prog 26 #[.pointer (some ⟨l, 0, none⟩)] w fun e w' => e = .returned (.int .i64 ((g.fin - g.at' : Nat) : Int)) ∧ w' = w.drew := by
  have c1 := cell_blk h 1
  have c2 := cell_blk h 2
  simp only [List.getElem?_toArray] at c1 c2
  have h1 := hok.le
  have h2 := hok.top
  clear h hok
  go_enter Try.func26, Try.ntmps26
  go_wp2
  go_region
  all_goals go_wp2
  all_goals go_ret
  all_goals exact ⟨ret_int (by omega), rfl⟩
theorem next_any (l d : Nat) (g : G) (w : World) (h : LogV w l d g) :
    Calls Try.prog 25 #[.pointer (some ⟨l, 0, none⟩)] w fun e w' => e = .returned (.int .u64 (g.nx : Int)) ∧ w = w' := by
  have c1 := cell_blk h 4
  simp only [List.getElem?_toArray] at c1
  clear h
  go_enter Try.func25, Try.ntmps25
  go_wp2
  go_ret
  exact ⟨rfl, rfl⟩

/-- Behind the frame of the records. -/
def G.pass (g : G) (L : List ByteArray) : G := { g with at' := g.at' + needN L, nx := g.nx + 1 }

set_option maxHeartbeats 1000000 in
theorem pass_any (l d : Nat) (g : G) (a : Option Addr) (L : List ByteArray) (cap : Nat) (w : World) (h : LogV w l d g) (hok : g.Ok) (hr : tot L ≤ 140737488355328) (hs : Strs w a L) :
    Calls Try.prog 43 #[.pointer (some ⟨l, 0, none⟩), .slice a L.length cap] w fun e w' => e = .returned (.tuple #[]) ∧ LogV w' l d (g.pass L) ∧ Turn (fun k => k = l) w w' := by
  have c1 := cell_blk h 1
  have c4 := cell_blk h 4
  have f1 := frozen_blk h 1
  have f4 := frozen_blk h 4
  simp only [List.getElem?_toArray] at c1 c4
  have hn := need_any a L cap w.drew hr hs
  have hN : needN L ≤ 549755813890 := by unfold needN sect; omega
  have h1 := hok.le
  have h2 := hok.top
  have h4 := hok.nx
  obtain ⟨n, hne⟩ : ∃ n, n = needN L := ⟨_, rfl⟩
  rw [← hne] at hn hN
  have HNE : Hid (n = needN L) := hne
  have HL : Hid (LogV w l d g) := h
  have d1 : w.drew.cell? ⟨l, 1, none⟩ = some (.int .i64 (g.at' : Int)) := c1
  have g1 : w.drew.frozen? ⟨l, 1, none⟩ = false := f1
  have HN := (show Hid _ from hn)
  have hw1 : IntKind.i64.wrap ((g.at' : Int) + (n : Int)) = (g.at' : Int) + (n : Int) := by rw [IntKind.wrap_i64]; omega
  clear h hne hn
  go_enter Try.func43, Try.ntmps43
  go_wp2
  go_region_with (go_at_call 17; refine Calls.mono HN.out ?_; rintro e w1 ⟨rfl, rfl⟩)
  all_goals
    (obtain ⟨w1, hw1e⟩ : ∃ w1, w1 = (w.setCell ⟨l, 1, none⟩ (.int .i64 ((g.at' : Int) + (n : Int)))).drew := ⟨_, rfl⟩
     rw [← hw1e]
     have hL1 : LogV w1 l d { g with at' := g.at' + n } := by
       rw [hw1e]
       exact (set_blk HL.out 1 _).trans (by simp)
     have hT1 : Turn (fun k => k = l) w w1 := by rw [hw1e]; exact ((Turn.refl _ _).setCell (by rfl) _).drew
     have e4 := cell_blk hL1 4
     have e5 := frozen_blk hL1 4
     simp only [List.getElem?_toArray] at e4
     have HL1 : Hid (LogV w1 l d { g with at' := g.at' + n } ∧ Turn (fun k => k = l) w w1) := ⟨hL1, hT1⟩
     clear hL1 hT1 hw1e c1 c4 f1 f4 d1 g1 HN
     go_wp2
     refine bodyPost_end (results_none rfl _ _ _) rfl ?_
     refine ⟨rfl, ?_, HL1.out.2.setCell (by rfl) _⟩
     rw [G.pass, ← HNE.out]
     exact (set_blk HL1.out.1 4 _).trans (by simp))
end Go.Proofs.Ytecljiefljgfmaa
/-
  The document's own sums of a log by their contracts: sectors, Need, fits.
-/
namespace Go.Proofs.Ytecljiefljgfmaa
open Go.RowKit

theorem refSectors_any (n : Nat) (w : World) (h : n ≤ 9223372036854775552) : Calls Try.prog 54 #[.int .i64 (n : Int)] w fun e w' => e = .returned (.int .i64 (sect n : Int)) ∧ w = w' := by
  go_enter Try.func54, Try.ntmps54
  go_wp2
  go_ret
  exact ⟨ret_int (by unfold sect; omega), rfl⟩

theorem refNeed_any (a : Option Addr) (L : List ByteArray) (cap : Nat) (w : World) (hr : tot L ≤ 8388608) (hs : Strs w a L) :
    Calls Try.prog 18 #[.slice a L.length cap] w fun e w' => e = .returned (.int .i64 (needN L : Int)) ∧ Below w.heap.size w w' := by
  have hp := refPack_any a L cap w hr hs
  go_enter Try.func18, Try.ntmps18
  go_wp2_with fail
  refine Calls.mono hp ?_
  rintro e w1 ⟨v, rfl, ho, hb⟩
  obtain ⟨a1, c1, rfl, hby, hno, hc1⟩ := ho.open
  have hl : ((packL L).length : Int) = (tot L : Int) := by rw [packL_length]
  have hse := refSectors_any (24 + tot L) w1 (by omega)
  rw [show ((24 + tot L : Nat) : Int) = 24 + (tot L : Int) from by omega] at hse
  rw [packL_length]
  clear hp hby hno hc1 ho hl
  go_wp2_with (go_at_call 54; refine Calls.mono hse ?_; rintro e w2 ⟨rfl, rfl⟩)
  go_ret
  exact ⟨rfl, hb⟩

def wfitB (L : Nat) (p n : Int) : Bool := decide (1 ≤ n ∧ 0 ≤ p ∧ p ≤ (L : Int) - n)
theorem refFits6_any {w wr : World} {d r : Nat} {K : Nat → Prop} {M : D} {N : R} (h : Pair w wr d r K M N) (p n : Int) (hn : n ≤ 9223372036854775807) (hp : p ≤ 9223372036854775807) (hp0 : -9223372036854775808 ≤ p) (hL : N.L.length ≤ 4096) :
    Calls Try.prog 44 #[.pointer (some ⟨r, 0, none⟩), .int .i64 p, .int .i64 n] wr fun e w' => e = .returned (.bool (wfitB N.L.length p n)) ∧ Below wr.heap.size wr w' := by
  obtain ⟨ca, cc, hc0⟩ := p_cell0 h
  obtain ⟨k, hk⟩ : ∃ k, k = N.L.length := ⟨_, rfl⟩
  rw [← hk] at hc0 hL ⊢
  clear h hk
  go_enter Try.func44, Try.ntmps44
  go_wp2
  all_goals
    (go_ret
     refine ⟨?_, Below.refl _ _⟩
     first
       | (rw [show wfitB k p n = false from by simp only [wfitB, decide_eq_false_iff_not]; omega]; rfl)
       | (rw [show wfitB k p n = decide (p ≤ (k : Int) - n) from by simp only [wfitB, decide_eq_decide]; omega]; rfl))
end Go.Proofs.Ytecljiefljgfmaa
/-
  The document's frame by its contract.
-/
namespace Go.Proofs.Ytecljiefljgfmaa
open Go.RowKit

/-- The document's frame: what is summed, and the whole. -/
def dTail (ep nx : Nat) (pay : List UInt8) : List UInt8 := be ep 8 ++ be nx 8 ++ pay
def dFrame (ep nx : Nat) (pay : List UInt8) : List UInt8 := be pay.length 4 ++ be (crcN (dTail ep nx pay)) 4 ++ dTail ep nx pay
theorem dTail_length (ep nx : Nat) (pay : List UInt8) : (dTail ep nx pay).length = 16 + pay.length := by rw [dTail, List.length_append, List.length_append, be_length, be_length]
theorem four_bytes {w8 : World} {s cv : Nat} (hc8 : ∀ j u, (bcs (be cv 4))[j]? = some u → w8.cell? ((⟨s, 0, none⟩ : Addr).add j) = some u) : Bytes w8 (some ⟨s, 0, none⟩) (be cv 4) := by
  have hs8 : s < w8.heap.size := by
    have := hc8 0 _ (bcs_get (by rw [be_length]; omega))
    rw [Addr.add_lit] at this
    rcases Nat.lt_or_ge s w8.heap.size with h | h
    · exact h
    · simp [World.cell?, Array.getElem?_eq_none h] at this
  exact .inr ⟨_, 0, rfl, hs8, fun j hj => by
    have := hc8 j _ (bcs_get hj)
    rwa [Addr.add_lit] at this⟩

set_option maxHeartbeats 2000000 in
set_option maxRecDepth 20000 in
theorem refFrame_any (ep nx : Nat) (a : Option Addr) (st : List UInt8) (cap : Nat) (w : World) (hep : ep < 18446744073709551616) (hnx : nx < 18446744073709551616) (hb : Bytes w a st) (hl : st.length ≤ 10000000) (hno : a = none → cap = 0) :
    Calls Try.prog 49 #[.int .u64 (ep : Int), .int .u64 (nx : Int), .slice a st.length cap] w fun e w' => ∃ v, e = .returned v ∧ Own w' w.heap.size v (dFrame ep nx st) ∧ Below w.heap.size w w' := by
  have hp1 := refPut64_any ep w hep
  obtain ⟨n, hn⟩ : ∃ n, n = st.length := ⟨_, rfl⟩
  have HN : Hid (n = st.length) := hn
  have HB : Hid (Bytes w a st) := hb
  rw [← hn] at hl ⊢
  clear hb hn
  go_enter Try.func49, Try.ntmps49
  go_wp2_with fail
  refine Calls.mono hp1 ?_
  rintro e w1 ⟨v1, rfl, ho1, hb1⟩
  obtain ⟨a1, c1, rfl, hby1, hno1, _⟩ := ho1.open
  rw [be_length]
  clear ho1 hp1
  have hsz1 := hb1.size
  go_upto_region 3 with (at_builtin; refine wpList_append_bytes rfl (.tmp 9) (.tmp 11) rfl w.heap.size (.slice none 0 0) [] rfl (World.ownsRow_nil _ _ _ _) a1 (be ep 8) c1 (by rw [be_length]; rfl) hby1 hno1 (by rw [be_length]; simp) hsz1 ?_; intro v2 w2 ho2 hg2)
  rw [List.nil_append] at ho2
  have hb2 : Below w.heap.size w w2 := hb1.grown hg2 hsz1 (by simp [Value.ownBlock])
  have hp2 := refPut64_any nx w2 hnx
  have HO2 : Hid (Own w2 w.heap.size v2 (be ep 8) ∧ Below w.heap.size w w2) := ⟨ho2, hb2⟩
  clear hby1 hno1 hsz1 hg2 ho2 hb1 hb2
  go_wp2_with fail
  refine Calls.mono hp2 ?_
  rintro e w3 ⟨v3, rfl, ho3, hb3⟩
  obtain ⟨a3, c3, rfl, hby3, hno3, _⟩ := ho3.open
  rw [be_length]
  have hO3 : Own w3 w.heap.size v2 (be ep 8) := keeps_below (w := w2) hb3 _ _ _ _ _ _ HO2.out.1
  have hB3 : Below w.heap.size w w3 := HO2.out.2.trans (hb3.mono HO2.out.2.size)
  have hsz3 := hB3.size
  clear ho3 hp2
  go_upto_region 4 with (at_builtin; refine wpList_append_bytes rfl (.tmp 13) (.tmp 15) rfl w.heap.size _ (be ep 8) rfl hO3 a3 (be nx 8) c3 (by rw [be_length]; rfl) hby3 hno3 (by rw [be_length, be_length]; omega) hsz3 ?_; intro v4 w4 ho4 hg4)
  have hb4 : Below w.heap.size w w4 := hB3.grown hg4 hsz3 (fun z hz => (owns_lt HO2.out.1 z hz).1)
  have hst4 : Bytes w4 a st := HB.out.below hb4 (Nat.le_refl _)
  have hz4 := hb4.size
  have HO4 : Hid (∀ z, v4.ownBlock = some z → w.heap.size ≤ z) := fun z hz => (owns_lt ho4 z hz).1
  clear HO2 hby3 hno3 hO3 hB3 hsz3 hb3 hg4
  go_upto_region 6 with (at_builtin; refine wpList_append_bytes rfl (.tmp 17) (.tmp 18) rfl w.heap.size _ (be ep 8 ++ be nx 8) rfl ho4 a st cap (by rw [← HN.out]; rfl) hst4 hno (by rw [List.length_append, be_length, be_length, ← HN.out]; omega) hz4 ?_; intro v6 w6 ho6 hg6)
  have hb6 : Below w.heap.size w w6 := hb4.grown hg6 hz4 HO4.out
  have hlen6 : (dTail ep nx st).length = 16 + n := by rw [dTail_length, HN.out]
  obtain ⟨T, hT⟩ : ∃ T, T = dTail ep nx st := ⟨_, rfl⟩
  have ho6' : Own w6 w.heap.size v6 T := by rw [hT]; exact ho6
  rw [← hT] at hlen6
  obtain ⟨a6, c6, rfl, hby6, hno6, _⟩ := ho6'.open
  rw [hlen6]
  have HM : Hid (Bytes w6 a6 T ∧ (a6 = none → c6 = 0) ∧ Below w.heap.size w w6 ∧ T = dTail ep nx st) := ⟨hby6, hno6, hb6, hT⟩
  have hf1 := four_any n w6 (by omega)
  clear ho4 hst4 hz4 hg6 ho6 ho6' hby6 hno6 hb4 hb6 hT
  go_wp2_with fail
  refine Calls.mono hf1 ?_
  rintro e w7 ⟨rfl, hc7, hb7⟩
  have hby7 := four_bytes hc7
  have hz7 := hb7.size
  clear hf1 hc7
  go_upto_region 7 with (at_builtin; refine wpList_append_bytes rfl (.tmp 20) (.tmp 24) rfl w6.heap.size (.slice none 0 0) [] rfl (World.ownsRow_nil _ _ _ _) (some ⟨w6.heap.size, 0, none⟩) (be n 4) 4 (by rw [be_length]; rfl) hby7 (by intro h; cases h) (by rw [be_length]; simp) hz7 ?_; intro v8 w8 ho8 hg8)
  rw [List.nil_append] at ho8
  have hb8 : Below w6.heap.size w6 w8 := hb7.grown hg8 hz7 (by simp [Value.ownBlock])
  have hcr := refCrc_any a6 T c6 w8 (by rw [hlen6]; omega) (HM.out.1.below hb8 (Nat.le_refl _))
  obtain ⟨cv, hcv⟩ : ∃ cv, cv = crcN T := ⟨_, rfl⟩
  rw [hlen6, show W (crcL T) = (cv : Int) from by rw [hcv]; rfl] at hcr
  have hcv4 : cv < 4294967296 := by rw [hcv]; exact crcN_lt _
  have hf2 := four_any cv w8 hcv4
  have HH : Hid (dFrame ep nx st = be n 4 ++ be cv 4 ++ T) := (show _ = _ from by rw [dFrame, hcv, HM.out.2.2.2, HN.out])
  have HO8 : Hid (Own w8 w6.heap.size v8 (be n 4) ∧ Below w6.heap.size w6 w8) := ⟨ho8, hb8⟩
  clear hcv hby7 hz7 hb7 hg8 ho8 hb8
  go_wp2_with fail
  refine Calls.mono hcr ?_
  rintro e w8' ⟨rfl, rfl⟩
  clear hcr
  go_wp2_with fail
  refine Calls.mono hf2 ?_
  rintro e w9 ⟨rfl, hc9, hb9⟩
  have hby9 := four_bytes hc9
  have ho9 : Own w9 w6.heap.size v8 (be n 4) := keeps_below (w := w8) hb9 _ _ _ _ _ _ HO8.out.1
  have hB9 : Below w6.heap.size w6 w9 := HO8.out.2.trans (hb9.mono HO8.out.2.size)
  have hz9 := hB9.size
  clear hf2 hc9 hb9
  go_upto_region 8 with (at_builtin; refine wpList_append_bytes rfl (.tmp 26) (.tmp 29) rfl w6.heap.size _ (be n 4) rfl ho9 (some ⟨w8.heap.size, 0, none⟩) (be cv 4) 4 (by rw [be_length]; rfl) hby9 (by intro h; cases h) (by rw [be_length, be_length]; omega) hz9 ?_; intro v10 w10 ho10 hg10)
  have hb10 : Below w6.heap.size w6 w10 := hB9.grown hg10 hz9 (fun z hz => (owns_lt HO8.out.1 z hz).1)
  have hby10 : Bytes w10 a6 T := HM.out.1.below hb10 (Nat.le_refl _)
  have hz10 := hb10.size
  have HO10 : Hid (∀ z, v10.ownBlock = some z → w6.heap.size ≤ z) := fun z hz => (owns_lt ho10 z hz).1
  clear ho9 hB9 hz9 hg10 HO8 hby9
  go_wp2_with (at_builtin; refine wpList_append_bytes rfl (.tmp 31) (.tmp 32) rfl w6.heap.size _ (be n 4 ++ be cv 4) rfl ho10 a6 T c6 (by rw [hlen6]; rfl) hby10 HM.out.2.1 (by rw [List.length_append, be_length, be_length, hlen6]; omega) hz10 ?_; intro v11 w11 ho11 hg11)
  go_ret
  have hb11 : Below w6.heap.size w6 w11 := hb10.grown hg11 hz10 HO10.out
  have hbw := HM.out.2.2.1
  rw [HH.out]
  exact ⟨v11, rfl, owns_base ho11 (fun j hj => by have := (owns_lt ho11 j hj).1; have := hbw.size; omega), hbw.trans (hb11.mono hbw.size)⟩
end Go.Proofs.Ytecljiefljgfmaa
/-
  The stamp of a log's next frame by its contract.
-/
namespace Go.Proofs.Ytecljiefljgfmaa
open Go.RowKit

def stampL (g : G) : List UInt8 := be g.ep 8 ++ be g.nx 8
theorem stampL_length (g : G) : (stampL g).length = 16 := by rw [stampL, List.length_append, be_length, be_length]

set_option maxHeartbeats 2000000 in
set_option maxRecDepth 20000 in
theorem stamp_any (l d : Nat) (g : G) (w : World) (h : LogV w l d g) (hok : g.Ok) :
    Calls Try.prog 76 #[.pointer (some ⟨l, 0, none⟩)] w fun e w' => ∃ v, e = .returned v ∧ Own w' w.heap.size v (stampL g) ∧ Below w.heap.size w w' := by
  have c3 := cell_blk h 3
  have c4 := cell_blk h 4
  simp only [List.getElem?_toArray] at c3 c4
  have hlt : l < w.heap.size := (Array.getElem?_eq_some_iff.1 h).1
  have h1 := hok.ep
  have h2 := hok.nx
  have HP1 : Hid (∀ p, Below w.heap.size w p → Calls Try.prog 83 #[.int .u64 (g.ep : Int)] p fun e q => ∃ a c, e = .returned (.slice a 8 c) ∧ Bytes q a (be g.ep 8) ∧ (a = none → c = 0) ∧ Below w.heap.size w q ∧ Below p.heap.size p q) := by
    intro p hp
    refine (put64_any g.ep p h1).mono ?_
    rintro e q ⟨v, rfl, ho, hb⟩
    obtain ⟨a, c, rfl, hby, hno, _⟩ := ho.open
    rw [be_length]
    exact ⟨a, c, rfl, hby, hno, hp.trans (hb.mono hp.size), hb⟩
  have HP2 : Hid (∀ p, Below w.heap.size w p → Calls Try.prog 83 #[.int .u64 (g.nx : Int)] p fun e q => ∃ a c, e = .returned (.slice a 8 c) ∧ Bytes q a (be g.nx 8) ∧ (a = none → c = 0) ∧ Below w.heap.size w q ∧ Below p.heap.size p q) := by
    intro p hp
    refine (put64_any g.nx p (by omega)).mono ?_
    rintro e q ⟨v, rfl, ho, hb⟩
    obtain ⟨a, c, rfl, hby, hno, _⟩ := ho.open
    rw [be_length]
    exact ⟨a, c, rfl, hby, hno, hp.trans (hb.mono hp.size), hb⟩
  have HCE : Hid (∀ q : World, Below w.heap.size w q → q.cell? ⟨l, 3, none⟩ = some (.int .u64 (g.ep : Int)) ∧ q.cell? ⟨l, 4, none⟩ = some (.int .u64 (g.nx : Int)) ∧ Below w.heap.size w q) := by
    intro q hq
    exact ⟨(hq.cell (p := ⟨l, 3, none⟩) hlt).trans c3, (hq.cell (p := ⟨l, 4, none⟩) hlt).trans c4, hq⟩
  have HB0 := (show Below w.heap.size w w.drew from (Below.refl _ w).drew)
  have HC : Hid (∀ (q : World) (a1 : Option Addr) (k1 : Nat) (a2 : Option Addr) (k2 : Nat), Bytes q a1 (be g.ep 8) → (a1 = none → k1 = 0) → Bytes q a2 (be g.nx 8) → (a2 = none → k2 = 0) → Below w.heap.size w q →
      Calls Try.prog 82 #[.slice (some ⟨q.heap.size, 0, none⟩) 2 2] (q.alloc (.cells #[.slice a1 8 k1, .slice a2 8 k2] 50)) fun e w' => ∃ v, e = .returned v ∧ Own w' w.heap.size v (stampL g) ∧ Below w.heap.size w w') := by
    intro q a1 k1 a2 k2 b1 n1 b2 n2 hq
    have hr : Rws (q.alloc (.cells #[.slice a1 8 k1, .slice a2 8 k2] 50)) q.heap.size [⟨a1, be g.ep 8, k1⟩, ⟨a2, be g.nx 8, k2⟩] := two_rows (by simp only [Sl.v, be_length]) b1 n1 b2 n2
    refine (concat_any q.heap.size [⟨a1, be g.ep 8, k1⟩, ⟨a2, be g.nx 8, k2⟩] 2 _ hr (by simp) (by simp [cat, be_length])).mono ?_
    rintro e w' ⟨v, rfl, ho, hb⟩
    have hq2 : Below w.heap.size w (q.alloc (.cells #[.slice a1 8 k1, .slice a2 8 k2] 50)) := hq.alloc hq.size _
    refine ⟨v, rfl, ?_, hq2.trans (hb.mono hq2.size)⟩
    have e : cat [⟨a1, be g.ep 8, k1⟩, ⟨a2, be g.nx 8, k2⟩] = stampL g := by simp [cat, stampL]
    rw [e] at ho
    exact owns_base ho fun j hj => by have := (owns_lt ho j hj).1; have := hq2.size; omega
  clear h hok h1 h2
  go_enter Try.func76, Try.ntmps76
  go_wp2
  go_region_held3 (fun w' => w'.cell? ⟨l, 3, none⟩ = some (.int .u64 (g.ep : Int)) ∧ w'.cell? ⟨l, 4, none⟩ = some (.int .u64 (g.nx : Int)) ∧ Below w.heap.size w w') (first | exact HCE.out _ (by assumption) | exact HCE.out _ (below_alloc (by assumption) _) | (go_keep))
    (first
      | (go_at_call 83; (with_reducible refine Calls.mono (HP1.out _ (by assumption)) ?_); rintro e w1 ⟨a1, k1, rfl, by1, no1, hb1, hp1⟩)
      | (go_at_call 83; (with_reducible refine Calls.mono (HP2.out _ (by assumption)) ?_); rintro e w2 ⟨a2, k2, rfl, by2, no2, hb2, hp2⟩; have by1' := by1.below hp2 (Nat.le_refl _))
      | (go_at_call 82; (refine Calls.mono (HC.out w2 a1 k1 a2 k2 by1' no1 by2 no2 hb2) ?_); rintro e w3 ⟨v3, rfl, ho3, hb3⟩))
  go_wp2
  go_ret
  exact ⟨_, rfl, ho3, hb3⟩
end Go.Proofs.Ytecljiefljgfmaa

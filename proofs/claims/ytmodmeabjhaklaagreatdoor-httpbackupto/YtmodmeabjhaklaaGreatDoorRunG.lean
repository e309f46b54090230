/-
  HttpQueries: the law's walk.
-/
import Derived.Test.YtmodmeabjhaklaaGreatDoorRunC
import Derived.Test.YtmodmeabjhaklaaGreatDoorRunE
import Derived.Test.YtmodmeabjhaklaaGreatDoorRows
import Derived.WalkKit
import Derived.ProofKit
import Derived.OpenShut
import Derived.Deep.Slices
import Derived.Deep.SlicePairs
import Derived.Test.YtmodmeabjhaklaaGreatDoorCards
import Derived.Test.YtmodmeabjhaklaaGreatDoorTie
import Derived.Carry
import Derived.Lib.DecodeN
import Derived.Shelf.Vars
import Derived.ShutString
import Derived.ChangeOld
import Derived.Below
import Derived.Deep.DeepHandedRow
import Derived.Lib.LaidTab
import Derived.Stop.LaidErr
import Derived.SizedLaws
import Derived.ChangeSlices
namespace Go.Proofs.YtmodmeabjhaklaaGreatDoor
open Go.RowKit

set_option maxRecDepth 20000 in
set_option maxHeartbeats 4000000 in
theorem httpQueries_walk (t : List UInt8) (a : Option Addr) (hs : List Hd) (cap : Nat) (n : List UInt8) (w : World) (hH : Hdrs w a hs) (ht : t.length ≤ 100000000) (hl : hs.length ≤ 100000000) (hm : Mx w) (he : Er w) :
    Calls Tryz.prog 5 #[.string ⟨t.toArray⟩, .slice a hs.length cap, .string ⟨n.toArray⟩] w fun e w' => e = .returned (.bool true) ∧ Below w.heap.size w w' := by
  have H := (show Hid (Hdrs w a hs ∧ Mx w ∧ Er w) from ⟨hH, hm, he⟩)
  have Q1 := (show Hid _ from query_any t w ht hm)
  have HQ2 := (show Hid (∀ W, Calls Tryz.prog 15 #[.string ⟨t.toArray⟩] W fun e w' => ∃ v, e = .returned (.tuple #[.string ⟨(Lib.cut t [63]).1.toArray⟩, v]) ∧ w'.ownsRow W.heap.size 45 2 v (qryL t).length (hcs (qryL t)) ∧ Below W.heap.size W w') from fun W => refQuery_any t W ht)
  have hqn : (qryL t).length ≤ 100000001 := by
    have h1 : (qryL t).length ≤ (splitL 38 (Lib.cut t [63]).2.1).length := List.length_filterMap_le _ _
    rw [splitL_length] at h1
    have h2 := List.count_le_length (a := (38 : UInt8)) (l := (Lib.cut t [63]).2.1)
    have := (cut_len t [63]).2
    omega
  have han := all_len hs n
  generalize (Lib.cut t [63]).1 = pt at *
  generalize qryL t = qs at *
  clear hH hm he ht
  go_enter Tryz.func5, Tryz.ntmps5
  go_wp2_with fail
  refine Calls.mono Q1.out ?_
  rintro e w1 ⟨v1, rfl, ho1, hb1⟩
  obtain ⟨a1, c1, rfl, hd1⟩ := own_hdrs ho1
  have H1 := (show Hid (Hdrs w1 a1 qs ∧ Below w.heap.size w w1) from ⟨hd1, hb1⟩)
  clear ho1 hd1 hb1 Q1
  go_wp2_with fail
  refine Calls.mono (HQ2.out w1) ?_
  rintro e w2 ⟨v2, rfl, ho2, hb2⟩
  obtain ⟨a2, c2, rfl, hd2⟩ := own_hdrs ho2
  have H2 := (show Hid (Hdrs w2 a1 qs ∧ Hdrs w2 a2 qs ∧ Below w.heap.size w w2) from ⟨H1.out.1.below hb2 (Nat.le_refl _), hd2, H1.out.2.trans (hb2.mono H1.out.2.size)⟩)
  clear ho2 hd2 hb2 HQ2 H1
  have G1 := (show Hid _ from get_any a hs cap n w2 (H.out.1.below H2.out.2.2 (Nat.le_refl _)) (by omega))
  go_wp2_with fail
  refine Calls.mono G1.out ?_
  rintro e w3 ⟨rfl, hb3⟩
  have H3 := (show Hid (Hdrs w3 a1 qs ∧ Hdrs w3 a2 qs ∧ Below w.heap.size w w3) from ⟨H2.out.1.below hb3 (Nat.le_refl _), H2.out.2.1.below hb3 (Nat.le_refl _), H2.out.2.2.trans (hb3.mono H2.out.2.2.size)⟩)
  clear hb3 G1 H2
  have G2 := (show Hid _ from refGet_any a hs cap n w3 (H.out.1.below H3.out.2.2 (Nat.le_refl _)) (by omega))
  generalize (getL hs n).isSome = gb at *
  generalize (getL hs n).getD [] = gv at *
  go_wp2_with fail
  refine Calls.mono G2.out ?_
  rintro e w4 ⟨rfl, hb4⟩
  have H4 := (show Hid (Hdrs w4 a1 qs ∧ Hdrs w4 a2 qs ∧ Below w.heap.size w w4) from ⟨H3.out.1.below hb4 (Nat.le_refl _), H3.out.2.1.below hb4 (Nat.le_refl _), H3.out.2.2.trans (hb4.mono H3.out.2.2.size)⟩)
  clear hb4 G2 H3
  have A1 := (show Hid _ from all_any a hs cap n w4 (H.out.1.below H4.out.2.2 (Nat.le_refl _)) (by omega))
  have A2 := (show Hid (∀ W, Below w.heap.size w W → Calls Tryz.prog 19 #[.slice a hs.length cap, .string ⟨n.toArray⟩] W fun e w' => ∃ v, e = .returned v ∧ OwnS w' W.heap.size v (toB (allL hs n)) ∧ Below W.heap.size W w') from fun W hW => refAll_any a hs cap n W (H.out.1.below hW (Nat.le_refl _)) (by omega))
  generalize allL hs n = al at *
  go_wp2_with fail
  refine Calls.mono A1.out ?_
  rintro e w5 ⟨v5, rfl, ho5, hb5⟩
  obtain ⟨a5, c5, rfl, hs5⟩ := ho5.strs
  rw [toB_len]
  have H5 := (show Hid (Hdrs w5 a1 qs ∧ Hdrs w5 a2 qs ∧ Below w.heap.size w w5 ∧ Strs w5 a5 (toB al)) from ⟨H4.out.1.below hb5 (Nat.le_refl _), H4.out.2.1.below hb5 (Nat.le_refl _), H4.out.2.2.trans (hb5.mono H4.out.2.2.size), hs5⟩)
  clear hb5 A1 H4 ho5 hs5
  go_wp2_with fail
  refine Calls.mono (A2.out w5 H5.out.2.2.1) ?_
  rintro e w6 ⟨v6, rfl, ho6, hb6⟩
  obtain ⟨a6, c6, rfl, hs6⟩ := ho6.strs
  rw [toB_len]
  have H6 := (show Hid (Hdrs w6 a1 qs ∧ Hdrs w6 a2 qs ∧ Below w.heap.size w w6 ∧ Strs w6 a5 (toB al) ∧ Strs w6 a6 (toB al)) from ⟨H5.out.1.below hb6 (Nat.le_refl _), H5.out.2.1.below hb6 (Nat.le_refl _), H5.out.2.2.1.trans (hb6.mono H5.out.2.2.1.size), H5.out.2.2.2.below hb6 (Nat.le_refl _), hs6⟩)
  clear hb6 A2 H5 ho6 hs6
  have hal : al.length ≤ 100000000 := by omega
  have AW := (show Hid (∀ W, Below w.heap.size w W → Calls Tryz.prog 12 #[] W fun e w' => e = .returned (.bool true) ∧ Below w.heap.size w w') from fun W hW => (awake_any W (H.out.2.1.below hW (Nat.le_refl _)) (H.out.2.2.below hW (Nat.le_refl _))).mono fun e w' ⟨h1, h2⟩ => ⟨h1, hW.trans (h2.mono hW.size)⟩)
  go_wp2
  go_loopw [17] (fun i wr => ∃ k : Nat, k ≤ qs.length ∧ i = .int .i64 k ∧ Below w6.heap.size w6 wr) (fun i _ => qs.length - (intOf i).toNat)
  case atStart => exact ⟨0, Nat.zero_le _, rfl, Below.refl _ _⟩
  case round =>
    obtain ⟨k, hk, rfl, hb⟩ := hrel
    by_cases hlt : k < qs.length
    · rcases H6.out.1.below hb (Nat.le_refl _) with hnil | ⟨b1, o1, rfl, hbs1, hc1⟩
      · rw [hnil] at hlt; simp at hlt
      · rcases H6.out.2.1.below hb (Nat.le_refl _) with hnil | ⟨b2, o2, rfl, hbs2, hc2⟩
        · rw [hnil] at hlt; simp at hlt
        · obtain ⟨d1, d2⟩ := hc1 k hlt
          obtain ⟨d3, d4⟩ := hc2 k hlt
          generalize qs[k] = h at d1 d2 d3 d4
          have hki : (k : Int) < (qs.length : Int) := by omega
          have hk0 : (0 : Int) ≤ (k : Int) := by omega
          have HB : Hid (Below w6.heap.size w6 wr) := hb
          clear hc1 hc2 hb
          go_wp2
          go_quiet (fail)
          go_wp2
          exact ⟨⟨k + 1, by omega, by go_num, HB.out.trans ((drewN_below wr _).mono HB.out.size)⟩, by simp [intOf]; omega⟩
    · obtain rfl : k = qs.length := by omega
      have HB : Hid (Below w6.heap.size w6 wr) := hb
      clear hb
      go_wp2
      go_loopw [18] (fun i ws => ∃ k : Nat, k ≤ al.length ∧ i = .int .i64 k ∧ Below w6.heap.size w6 ws) (fun i _ => al.length - (intOf i).toNat)
      case atStart => exact ⟨0, Nat.zero_le _, rfl, HB.out⟩
      case round =>
        obtain ⟨j, hj, rfl, hb⟩ := hrel
        by_cases hjt : j < al.length
        · rcases H6.out.2.2.2.1.below hb (Nat.le_refl _) with hnil | ⟨b1, o1, rfl, hbs1, hc1⟩
          · have := congrArg List.length hnil
            rw [toB_len] at this
            simp at this
            rw [this] at hjt
            simp at hjt
          · rcases H6.out.2.2.2.2.below hb (Nat.le_refl _) with hnil | ⟨b2, o2, rfl, hbs2, hc2⟩
            · have := congrArg List.length hnil
              rw [toB_len] at this
              simp at this
              rw [this] at hjt
              simp at hjt
            · have d1 := hc1 j (by rw [toB_len]; exact hjt)
              have d2 := hc2 j (by rw [toB_len]; exact hjt)
              rw [toB_at] at d1 d2
              generalize al[j] = x at d1 d2
              have hji : (j : Int) < (al.length : Int) := by omega
              have hj0 : (0 : Int) ≤ (j : Int) := by omega
              have HB2 := (show Hid _ from hb)
              clear hc1 hc2 hb
              go_wp2
              go_quiet (fail)
              go_wp2
              exact ⟨⟨j + 1, by omega, by go_num, HB2.out.trans ((drewN_below _ _).mono HB2.out.size)⟩, by simp [intOf]; omega⟩
        · obtain rfl : j = al.length := by omega
          have K := (show Hid _ from AW.out _ (H6.out.2.2.1.trans (hb.mono H6.out.2.2.1.size)))
          clear hb
          go_wp2_with fail
          refine Calls.mono K.out ?_
          rintro e w9 ⟨rfl, hb9⟩
          have HB9 := (show Hid _ from hb9)
          clear hb9 K
          go_wp2
          go_ret
          exact ⟨rfl, HB9.out⟩
end Go.Proofs.YtmodmeabjhaklaaGreatDoor
/-
  What came in, told by lists: a list of headers.
-/
namespace Go.Proofs.YtmodmeabjhaklaaGreatDoor
open Go.ChangeShapes Go.WideShapes Go.ChangeAt Go.RowKit

theorem cells9 : Tryz.prog.cellsOf 9 = 1 := by kernel_rfl
theorem cells45 : Tryz.prog.cellsOf 45 = 2 := by kernel_rfl
theorem bulk_hdr {H : Type} (F : Nat → ByteArray × ByteArray) (D0 D1 : Nat → DataW H) : ∀ l : List Nat, (∀ i ∈ l, D0 i = .lit (.string (F i).1.data.toList) ∧ D1 i = .lit (.string (F i).2.data.toList)) →
    l.length ≤ Rows.uptoBulkAll (l.map fun i => DataW.agg [D0 i, D1 i])
  | [], _ => by simp
  | i :: l, h => by
    have ih := bulk_hdr F D0 D1 l fun j hj => h j (by simp [hj])
    obtain ⟨e0, e1⟩ := h i (by simp)
    show l.length + 1 ≤ Rows.uptoBulkAll (DataW.agg [D0 i, D1 i] :: l.map fun i => DataW.agg [D0 i, D1 i])
    rw [e0, e1]
    simp only [Rows.uptoBulkAll, Rows.uptoBulk]
    omega
/-- A slice of headers that came in. -/
theorem open_hdrs {H : Type} {enc : TypeId × Value → H} {W : World} {t e : TypeId} {f0 f1 : Field} (ht : Tryz.prog.underlying t = some (.slice e)) (he : Tryz.prog.underlying e = some (.struct #[f0, f1])) (ce : Tryz.prog.cellsOf e = 2) (o0 : f0.offset = 0) (o1 : f1.offset = 1) (t0 : f0.type = 9) (t1 : f1.type = 9)
    {fuel : Nat} {c : Value} {x : DataW H × List MemPlace} (h : DataW.trod enc Tryz.prog W 0 (fun _ => true) true fuel t [c] = some x) :
    ∃ (a : Option Addr) (L : List Hd) (cap : Nat), c = .slice a L.length cap ∧ Hdrs W a L ∧ L.length ≤ Rows.uptoBulk x.1 := by
  rcases Go.Deep.open_slice_pairs ht he ce o0 o1 (by rw [t0]; exact cells9) (by rw [t1]; exact cells9) h with ⟨hcs, _⟩ | ⟨a, len, cap, m, n, V0, V1, D0, D1, P0, P1, hcs, _, hl, hm, hmm, hd, hrow⟩
  · simp only [List.cons.injEq, and_true] at hcs
    exact ⟨none, [], 0, hcs, .inl rfl, by simp⟩
  · simp only [List.cons.injEq, and_true] at hcs
    have hm' : m = cap := by simpa using hmm
    obtain ⟨F, hF⟩ := Go.Deep.choose_lt (α := ByteArray × ByteArray) (p := fun i o => W.cell? (a.add (i * 2)) = some (.string o.1) ∧ W.cell? (a.add (i * 2 + 1)) = some (.string o.2) ∧ D0 i = .lit (.string o.1.data.toList) ∧ D1 i = .lit (.string o.2.data.toList)) (n := len) (fun i hi => by
      obtain ⟨g0, g1, k0, k1⟩ := hrow i (by omega)
      rw [t0] at k0
      rw [t1] at k1
      obtain ⟨s0, r0, q0, _⟩ := DataW.trod_string Tryz.underlying9 k0
      obtain ⟨s1, r1, q1, _⟩ := DataW.trod_string Tryz.underlying9 k1
      simp only [List.cons.injEq, and_true] at r0 r1
      exact ⟨(s0, s1), by rw [g0, r0], by rw [g1, r1], (Prod.mk.inj q0).1, (Prod.mk.inj q1).1⟩)
    refine ⟨some a, (List.range len).map (fun i => ((F i).1.data.toList, (F i).2.data.toList)), cap, by rw [hcs]; simp, ?_, ?_⟩
    · by_cases h0 : len = 0
      · subst h0; exact .inl rfl
      · obtain ⟨b, off, spot⟩ := a
        have hc0 := (hF 0 (by omega)).1
        have hspot : spot = none := by simpa [Addr.add] using World.cell?_spot hc0
        subst hspot
        refine .inr ⟨b, off, rfl, ?_, fun j hj => ?_⟩
        · have := block_lt_of_cell hc0
          simpa [Addr.add] using this
        · have hj' : j < len := by simpa using hj
          have hc := hF j hj'
          have e : ((List.range len).map (fun i => ((F i).1.data.toList, (F i).2.data.toList)))[j] = ((F j).1.data.toList, (F j).2.data.toList) := by simp
          rw [e]
          have u0 := hc.1
          have u1 := hc.2.1
          rw [Addr.add_lit] at u0 u1
          have es : ∀ s : ByteArray, (⟨s.data.toList.toArray⟩ : ByteArray) = s := fun s => by cases s; simp
          simp only [es]
          exact ⟨u0, by rw [Nat.add_assoc]; exact u1⟩
    · have hb := bulk_hdr F D0 D1 (List.range len) fun i hi => (hF i (List.mem_range.1 hi)).2.2
      rw [hd]
      simp only [Rows.uptoBulk]
      simp only [List.length_map, List.length_range] at hb ⊢
      omega
end Go.Proofs.YtmodmeabjhaklaaGreatDoor
/- HttpQueries, its card, where what comes in is of bulk at most 1048576: http.Query, Get and All answer what the document's do, for every target, list of headers and name; the library's tables and its two errors read as the program's text lays them (the tie is given). -/
namespace Go.Proofs.YtmodmeabjhaklaaGreatDoor
open Go.ChangeShapes Go.WideShapes Go.ChangeAt Go.RowKit
open Go.ChangeMaps (open_string shut_string)

theorem ownK : ownKnob Tryz.prog.godebug = none := by kernel_rfl
theorem laidOut : laidOutB Tryz.prog = true := by kernel_rfl
theorem mx_of {W : World} (h : W.ShapedOpen Tryz.prog) : Mx W :=
  cell_of_shapedOpen_int (zero := #[.int .i64 0]) (t := 3) h (of_decide_eq_true (by kernel_rfl)) (by kernel_rfl) rfl (by kernel_rfl) (by kernel_rfl) Tryz.underlying3
def firstCells : Array Value := ((List.range 256).map fun b => Value.int .u8 (Lib.firstT b)).toArray
def rangeCells : Array Value := ([128, 191, 160, 191, 128, 159, 144, 191, 128, 143, 0, 0, 0, 0, 0, 0, 0, 0, 0, 0, 0, 0, 0, 0, 0, 0, 0, 0, 0, 0, 0, 0].map fun b => Value.int .u8 b).toArray
def powCells : Array Value := #[.int .u64 1, .int .u64 10, .int .u64 100, .int .u64 1000, .int .u64 10000, .int .u64 100000, .int .u64 1000000, .int .u64 10000000, .int .u64 100000000, .int .u64 1000000000, .int .u64 10000000000, .int .u64 100000000000, .int .u64 1000000000000, .int .u64 10000000000000, .int .u64 100000000000000, .int .u64 1000000000000000, .int .u64 10000000000000000, .int .u64 100000000000000000, .int .u64 1000000000000000000, .int .u64 10000000000000000000]
def b32Cells : Array Value := #[.int .u8 0, .int .u8 1, .int .u8 28, .int .u8 2, .int .u8 29, .int .u8 14, .int .u8 24, .int .u8 3, .int .u8 30, .int .u8 22, .int .u8 20, .int .u8 15, .int .u8 25, .int .u8 17, .int .u8 4, .int .u8 8, .int .u8 31, .int .u8 27, .int .u8 13, .int .u8 23, .int .u8 21, .int .u8 19, .int .u8 16, .int .u8 7, .int .u8 26, .int .u8 12, .int .u8 18, .int .u8 6, .int .u8 11, .int .u8 5, .int .u8 10, .int .u8 9]
def b64Cells : Array Value := #[.int .u8 0, .int .u8 1, .int .u8 56, .int .u8 2, .int .u8 57, .int .u8 49, .int .u8 28, .int .u8 3, .int .u8 61, .int .u8 58, .int .u8 42, .int .u8 50, .int .u8 38, .int .u8 29, .int .u8 17, .int .u8 4, .int .u8 62, .int .u8 47, .int .u8 59, .int .u8 36, .int .u8 45, .int .u8 43, .int .u8 51, .int .u8 22, .int .u8 53, .int .u8 39, .int .u8 33, .int .u8 30, .int .u8 24, .int .u8 18, .int .u8 12, .int .u8 5, .int .u8 63, .int .u8 55, .int .u8 48, .int .u8 27, .int .u8 60, .int .u8 41, .int .u8 37, .int .u8 16, .int .u8 46, .int .u8 35, .int .u8 44, .int .u8 21, .int .u8 52, .int .u8 32, .int .u8 23, .int .u8 11, .int .u8 54, .int .u8 26, .int .u8 40, .int .u8 15, .int .u8 34, .int .u8 20, .int .u8 31, .int .u8 10, .int .u8 25, .int .u8 14, .int .u8 19, .int .u8 9, .int .u8 13, .int .u8 8, .int .u8 7, .int .u8 6]
def synT : ByteArray := ⟨#[105, 110, 118, 97, 108, 105, 100, 32, 115, 121, 110, 116, 97, 120]⟩
def rngT : ByteArray := ⟨#[118, 97, 108, 117, 101, 32, 111, 117, 116, 32, 111, 102, 32, 114, 97, 110, 103, 101]⟩
theorem gErrS : Tryz.prog.globalNamed "strconv.ErrSyntax" = some 1 := by kernel_rfl
theorem gErrSType : (Tryz.prog.globals[1]?).map (·.type) = some 95 := by kernel_rfl
theorem gErrR : Tryz.prog.globalNamed "strconv.ErrRange" = some 2 := by kernel_rfl
theorem gErrRType : (Tryz.prog.globals[2]?).map (·.type) = some 95 := by kernel_rfl
theorem cells140 : Tryz.prog.cellsOf 140 = 1 := by kernel_rfl
theorem starS : "*" ++ "errors.errorString" = "*errors.errorString" := by decide
theorem row138 (u : TypeId) (h : Tryz.prog.typeName? 3 u = some "*errors.errorString") : u = 138 :=
  typeName_ptr_named (nm := "errors.errorString") (by rw [starS]; kernel_rfl) (by kernel_rfl) (by decide) u (by rw [starS]; exact h)
theorem er_of {W : World} (h : laidMetH Tryz.prog Rows.httpQueriesUptoRow.laid W) : Er W := by
  have h1 : laidMet Tryz.prog Rows.httpQueriesUptoRow.laid W := h
  have h2 := laidMet.tail (laidMet.tail (laidMet.tail (laidMet.tail h1)))
  obtain ⟨a, s, hv, -⟩ := laid_sentinel (laidMet.tail h2) gErrS gErrSType Tryz.underlying95 row138 Tryz.underlying138 Tryz.underlying140 rfl rfl Tryz.underlying9 cells140 cells9
  obtain ⟨a', s', hv', -⟩ := laid_sentinel h2 gErrR gErrRType Tryz.underlying95 row138 Tryz.underlying138 Tryz.underlying140 rfl rfl Tryz.underlying9 cells140 cells9
  exact ⟨⟨_, World.var?_cell gErrS hv 0, .inr ⟨_, _, rfl⟩⟩, ⟨_, World.var?_cell gErrR hv' 0, .inr ⟨_, _, rfl⟩⟩⟩

set_option maxRecDepth 20000 in
theorem httpQueries_contract (H : Type) (enc : TypeId × Value → H) (W : World) (base : Nat) (args : Array Value) (ds gs : List (DataW H)) (before : List MemPlace)
    (hval : ∀ (j : Nat) t v, Tryz.f5.params[j]? = some t → args[j]? = some v → Value.okWide Tryz.prog W .any base t v)
    (hW : DataW.Whole enc Tryz.prog Tryz.f5.params.toList Rows.httpQueriesSpec.vars false W args.toList ds gs before)
    (hk : Rows.uptoSmall H (ds ++ gs) = true) (hL : laidMetH Tryz.prog Rows.httpQueriesUptoRow.laid W) (hsh : W.ShapedOpen Tryz.prog) :
    Calls Tryz.prog 5 args W fun e W' => ∃ v, e = .returned v ∧ Rows.httpQueriesSpec.post enc Tryz.prog Tryz.f5 false true false false W args v W' := by
  have hW' := hW
  obtain ⟨p, q, hA0, hV, rfl, hfz, hnd⟩ := hW
  have hA : DataW.TrodAll enc Tryz.prog W 0 (fun _ => true) true Tryz.f5.params.toList args.toList ds p := hA0
  rw [Tryz.params5] at hA hval
  obtain ⟨v0, vs0, d0, ds0, p0, q0, hargs, rfl, rfl, h0, r0⟩ := trodAll_cons hA
  obtain ⟨v1, vs1, d1, ds1, p1, q1, rfl, rfl, rfl, h1, r1⟩ := trodAll_cons r0
  obtain ⟨v2, vs2, d2, ds2, p2, q2, rfl, rfl, rfl, h2, r2⟩ := trodAll_cons r1
  obtain ⟨rfl, rfl, rfl⟩ := trodAll_nil r2
  obtain rfl : args = #[v0, v1, v2] := by cases args; simp_all
  obtain ⟨rfl, rfl⟩ := trodVars_none hV
  have hbulk : Rows.uptoBulk d0 + (Rows.uptoBulk d1 + (Rows.uptoBulk d2 + 0)) ≤ 1048576 := by
    have h : Rows.uptoBulkAll ([d0, d1, d2] ++ []) ≤ 1048576 := of_decide_eq_true hk
    simpa only [List.append_nil, Rows.uptoBulkAll] using h
  have k1 := h1
  have lt1 : ∀ x ∈ p1, x.block < W.heap.size := by obtain ⟨m, hm⟩ := k1; exact DataW.trod_lt m _ _ _ hm
  obtain ⟨s0, rfl, rfl, rfl, w0⟩ := open_string Tryz.underlying9 (hval 0 9 v0 rfl rfl) h0
  obtain ⟨s2, rfl, rfl, rfl, w2⟩ := open_string Tryz.underlying9 (hval 2 9 v2 rfl rfl) h2
  obtain ⟨x1, x2, x3, rfl⟩ := okWide_slice Tryz.underlying24 (hval 1 24 v1 rfl rfl)
  obtain ⟨fuel, hf⟩ := h1
  obtain ⟨a, L, cap, hsl, hH, hLb⟩ := open_hdrs Tryz.underlying24 Tryz.underlying45 cells45 rfl rfl rfl rfl hf
  rw [hsl]
  simp only [Rows.uptoBulk] at hbulk
  simp only at hLb
  clear hA0
  have z0 : s0.data.toList.length = s0.size := by simp
  have key := httpQueries_walk s0.data.toList a L cap s2.data.toList W hH (by omega) (by omega) (mx_of hsh) (er_of hL)
  have es : ∀ s : ByteArray, (⟨s.data.toList.toArray⟩ : ByteArray) = s := fun s => by cases s; simp
  rw [es, es] at key
  refine key.mono fun e W' ⟨he, bel⟩ => ?_
  subst he
  rw [← hsl]
  exact ⟨_, rfl, _, _, _, [], _, [], hW', trodAll_mk1 (shut_bool Tryz.underlying4 _), (trodAll_cons_mk (shut_string Tryz.underlying9 w0) (trodAll_cons_mk (Below.trod laidOut (by kernel_rfl) (of_decide_eq_true (by kernel_rfl)) k1 bel lt1) (trodAll_cons_mk (shut_string Tryz.underlying9 w2) trodAll_mk0))), rfl, bel.frame _, fun h => by cases h⟩

noncomputable def lowN : Nat := (World.holding Tryz.prog default ⟨#[], #[], []⟩).heap.size
noncomputable def laidWorld (os : Os) : World :=
  let w0 := World.holding Tryz.prog os ⟨#[.cells #[.string synT] 140, .cells #[.string rngT] 140], #[], []⟩
  { w0 with heap := (((((((w0.heap).modify 3 (fun o => match o with | .cells _ t frozen => .cells firstCells t frozen | o => o)).modify 4 (fun o => match o with | .cells _ t frozen => .cells rangeCells t frozen | o => o)).modify 1 (fun o => match o with | .cells _ t frozen => .cells #[.iface 138 (.pointer (some ⟨lowN, 0, none⟩))] t frozen | o => o)).modify 2 (fun o => match o with | .cells _ t frozen => .cells #[.iface 138 (.pointer (some ⟨lowN + 1, 0, none⟩))] t frozen | o => o)).modify 5 (fun o => match o with | .cells _ t frozen => .cells powCells t frozen | o => o)).modify 6 (fun o => match o with | .cells _ t frozen => .cells b32Cells t frozen | o => o)).modify 7 (fun o => match o with | .cells _ t frozen => .cells b64Cells t frozen | o => o) }
theorem httpQueries_met (os : Os) : laidMet Tryz.prog Rows.httpQueriesUptoRow.laid ((laidWorld os).forCall (fun _ _ => 0) ⟨#[], #[.string ByteArray.empty, .slice none 0 0, .string ByteArray.empty], []⟩).memory :=
  laidMet_of_run' 8 (by kernel_rfl) (by kernel_rfl)
theorem httpQueries_reads (os : Os) {H : Type} (enc : TypeId × Value → H) : ∃ places, DataW.whole enc Tryz.prog ((laidWorld os).forCall (fun _ _ => 0) ⟨#[], #[.string ByteArray.empty, .slice none 0 0, .string ByteArray.empty], []⟩).memory Tryz.f5.params.toList Rows.httpQueriesSpec.vars false (#[.string ByteArray.empty, .slice none 0 0, .string ByteArray.empty] : Array Value).toList 8 = some ([.lit (.string []), .nil, .lit (.string [])], [], places) :=
  ⟨[], by kernel_rfl⟩

set_option maxRecDepth 100000 in
theorem httpQueries_lifted (os : Os) (started : os.Started) (H : Type) (enc : TypeId × Value → H) (F : Stop.Interp) :
    ReturnsInHanded {} Tryz.checked os 5 .any ((Rows.OpenSpec.upto Rows.httpQueriesSpec).preRow enc Tryz.prog Tryz.f5 Rows.httpQueriesUptoRow.domain false Rows.httpQueriesUptoRow.laid) (((Rows.OpenSpec.upto Rows.httpQueriesSpec).at F).post enc Tryz.prog Tryz.f5 false true false false) := by
  obtain ⟨places, hx⟩ := httpQueries_reads os enc
  refine returnsInHanded_of_row (C := Tryz.checked) (s := Rows.OpenSpec.upto Rows.httpQueriesSpec) ownK started (by kernel_rfl) Tryz.func5
    (witness_row_at (enc := enc) (C := Tryz.checked) false (laidWorld os) #[.string ByteArray.empty, .slice none 0 0, .string ByteArray.empty] rfl (by kernel_rfl) (by kernel_rfl) (by kernel_rfl)
      (OpenSpec.preRow_of_cond 8 hx (by kernel_rfl) (fun k hk => by cases hk; kernel_rfl) (by kernel_rfl) (httpQueries_met os))) ?_
  intro W base args ds gs before hval hW _ hcond _ hL hsh _
  exact httpQueries_contract H enc W base args ds gs before hval hW (hcond _ rfl) hL hsh

theorem httpQueries_said : Rows.HttpQueriesUptoSaid :=
  OpenClaim.holds_of_cond 5 Tryz.f5 rfl rfl rfl rfl rfl rfl rfl ⟨rfl, rfl, rfl, rfl, rfl⟩ rfl rfl rfl rfl rfl (by kernel_rfl) Tryz.func5 (by kernel_rfl)
    (of_decide_eq_true (by kernel_rfl)) (by unfold Func.isWrapper; first | (rw [if_pos (by decide +kernel)]; kernel_rfl) | (rw [if_neg (by decide +kernel)]; exact ⟨rfl, rfl⟩))
    (fun os started H enc _ F => by rw [OpenClaim.pre_eq_preRow]; exact httpQueries_lifted os started H enc F)

theorem httpQueries_plain (f : FuncId) (fn : Func) (hf : Tryz.pinned.checked.prog.funcNamed "stowage/stowagelaw16.HttpQueries" = some f) (hfn : Tryz.pinned.checked.prog.funcs[f]? = some fn) :
    true = Tryz.pinned.checked.prog.looks [] ∧ ∀ (j : Nat) t, fn.params[j]? = some t → Tryz.pinned.checked.prog.wantsStandIn t = false := by
  obtain rfl : f = 5 := Option.some.inj ((show Tryz.prog.funcNamed "stowage/stowagelaw16.HttpQueries" = some 5 by kernel_rfl).symm.trans hf) |>.symm
  obtain rfl : fn = Tryz.f5 := (Option.some.inj (Tryz.func5.symm.trans hfn)).symm
  refine ⟨by kernel_rfl, fun j t ht => ?_⟩
  rw [Tryz.params5] at ht
  have hm : t = 9 ∨ t = 24 ∨ t = 9 := by simpa using Array.mem_of_getElem? ht
  rcases hm with rfl | rfl | rfl
  · exact (show Tryz.prog.wantsStandIn 9 = false by kernel_rfl)
  · exact (show Tryz.prog.wantsStandIn 24 = false by kernel_rfl)
  · exact (show Tryz.prog.wantsStandIn 9 = false by kernel_rfl)

theorem httpQueries_card : Rows.HttpQueriesUptoCardSaid :=
  Claim7.holds_tied_plain_at .later [] _ _ _ _ httpQueries_said (fun _ h => by cases h) (by kernel_rfl) (fun _ h => by cases h) httpQueriesUpto_row_tie rfl ⟨rfl, rfl⟩ (by kernel_rfl) rfl httpQueries_plain (by kernel_rfl)
#print axioms httpQueries_card
end Go.Proofs.YtmodmeabjhaklaaGreatDoor
/-
  What came in, told by lists: a slice of bytes, with its place.
-/
namespace Go.Proofs.YtmodmeabjhaklaaGreatDoor
open Go.ChangeShapes Go.WideShapes Go.ChangeAt Go.RowKit

theorem cells5 : Tryz.prog.cellsOf 5 = 1 := by kernel_rfl
set_option maxRecDepth 20000 in
theorem okWide_place {w : World} {r : Reach} {base : Nat} {t e : TypeId} {a : Addr} {len cap : Nat} (ht : Tryz.prog.underlying t = some (.slice e)) (h : Value.okWide Tryz.prog w r base t (.slice (some a) len cap)) : a.spot = none ∧ a.block < w.heap.size := by
  simp only [Value.okWide, ht, Cell.okWide, Cell.ok, World.has] at h
  obtain ⟨-, -, -, h1, row, cells, h2, -⟩ := h
  refine ⟨h1, ?_⟩
  unfold World.shape? at h2
  cases hb : w.heap[a.block]? with
  | none => rw [hb] at h2; simp at h2
  | some o => exact (Array.getElem?_eq_some_iff.1 hb).1
theorem bytes_of_ints {W : World} {x : Addr} {len cap : Nat} {zs : List Int} (hl : len ≤ cap) (hz : zs.length = cap)
    (hcell : ∀ i, i < zs.length → W.cell? (x.add i) = some (.int .u8 (zs.getD i 0))) (hwz : ∀ n ∈ zs, (Lit.int .u8 n).wf = true) :
    ∃ l : List UInt8, l.length = len ∧ Bytes W (some x) l := by
  refine ⟨(zs.take len).map (fun z => UInt8.ofNat z.toNat), by simp; omega, ?_⟩
  by_cases h0 : len = 0
  · subst h0
    exact .inl (by simp)
  · obtain ⟨b, off, spot⟩ := x
    have hc0 := hcell 0 (by omega)
    have hspot : spot = none := by simpa [Addr.add] using World.cell?_spot hc0
    subst hspot
    refine .inr ⟨b, off, rfl, ?_, fun j hj => ?_⟩
    · have := block_lt_of_cell hc0
      simpa [Addr.add] using this
    · have hj' : j < zs.length := by simp at hj; omega
      have := hcell j hj'
      rw [Addr.add_lit] at this
      rw [this]
      have hwf := hwz zs[j] (List.getElem_mem hj')
      have hb : 0 ≤ zs[j] ∧ zs[j] ≤ 255 := by simpa [Lit.wf, IntKind.min, IntKind.max, IntKind.signed, IntKind.bits] using hwf
      simp only [List.getElem_map, List.getElem_take]
      rw [UInt8.toNat_ofNat', Nat.mod_eq_of_lt (by omega), List.getD_eq_getElem?_getD, List.getElem?_eq_getElem hj']
      simp only [Option.getD_some]
      congr 2
      omega
theorem bulk_lits {H : Type} (k : IntKind) (zs : List Int) : zs.length ≤ Rows.uptoBulkAll (lits (H := H) k zs) := by
  induction zs with
  | nil => simp
  | cons z r ih =>
    have e : lits (H := H) k (z :: r) = .lit (.int k z) :: lits k r := rfl
    rw [e]
    simp only [Rows.uptoBulkAll, Rows.uptoBulk, List.length_cons]
    omega
set_option maxRecDepth 20000 in
/-- A slice of bytes that came in. -/
theorem open_bytes {H : Type} {enc : TypeId × Value → H} {W : World} {r : Reach} {base : Nat} {v : Value} {d : DataW H} {p : List MemPlace} (hv : Value.okWide Tryz.prog W r base 22 v) (h : DataW.Trod enc Tryz.prog W 0 (fun _ => true) true 22 v d p) :
    ∃ (a : Option Addr) (l : List UInt8) (cap : Nat), v = .slice a l.length cap ∧ l.length ≤ cap ∧ Bytes W a l ∧ (∀ x, a = some x → x.spot = none ∧ x.block < W.heap.size) ∧ (a = none → cap = 0) ∧ l.length ≤ Rows.uptoBulk d := by
  obtain ⟨a, len, cap, rfl⟩ := okWide_slice Tryz.underlying22 hv
  obtain ⟨fuel, hf⟩ := h
  rcases open_ints Tryz.underlying22 Tryz.underlying5 cells5 hf with ⟨hcs, _⟩ | ⟨x, l, c, zs, hcs, _, hl, hm, hz, hd, hcell, hwz⟩
  · simp [Value.cells] at hcs
    obtain ⟨rfl, rfl, rfl⟩ := hcs
    exact ⟨none, [], 0, rfl, by simp, .inl rfl, fun x hx => (by cases hx), fun _ => rfl, by simp⟩
  · simp [Value.cells] at hcs
    obtain ⟨rfl, rfl, rfl⟩ := hcs
    have hz' : zs.length = cap := by simpa using hz
    obtain ⟨m, rfl, hb⟩ := bytes_of_ints hl hz' hcell hwz
    refine ⟨some x, m, cap, rfl, hl, hb, fun y hy => ?_, fun h => by (cases h), ?_⟩
    · simp only [Option.some.injEq] at hy
      subst hy
      exact okWide_place Tryz.underlying22 hv
    · have hd0 : d = .slice (lits .u8 (zs.take m.length)) (lits .u8 (zs.drop m.length)) := (Prod.mk.inj hd).1
      have hb := bulk_lits (H := H) .u8 (zs.take m.length)
      rw [hd0]
      simp only [Rows.uptoBulk]
      simp only [List.length_take] at hb
      omega
end Go.Proofs.YtmodmeabjhaklaaGreatDoor

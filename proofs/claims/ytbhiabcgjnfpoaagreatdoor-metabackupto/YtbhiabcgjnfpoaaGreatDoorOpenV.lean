/-
  What came in, told by lists: a version with its lists of pairs.
-/
import Derived.Test.YtbhiabcgjnfpoaaGreatDoorRun27
import Derived.Test.YtbhiabcgjnfpoaaGreatDoorRows
import Derived.WalkKit
import Derived.ProofKit
import Derived.OpenShut
import Derived.Deep.Slices
import Derived.Deep.SlicePairs
import Derived.Lib.ItoaLen
namespace Go.Proofs.YtbhiabcgjnfpoaaGreatDoor
open Go.ChangeShapes Go.WideShapes Go.ChangeAt Go.RowKit

theorem cells9 : Tryz.prog.cellsOf 9 = 1 := by kernel_rfl
theorem cells3 : Tryz.prog.cellsOf 3 = 1 := by kernel_rfl
theorem cells4 : Tryz.prog.cellsOf 4 = 1 := by kernel_rfl
theorem cells26 : Tryz.prog.cellsOf 26 = 1 := by kernel_rfl
theorem cells23 : Tryz.prog.cellsOf 23 = 1 := by kernel_rfl
theorem cells28 : Tryz.prog.cellsOf 28 = 2 := by kernel_rfl
theorem cells30 : Tryz.prog.cellsOf 30 = 12 := by kernel_rfl
theorem cells81 : Tryz.prog.cellsOf 81 = 2 := by kernel_rfl
theorem cells72 : Tryz.prog.cellsOf 72 = 2 := by kernel_rfl

theorem bulk_prs {H : Type} (F : Nat → ByteArray × ByteArray) (D0 D1 : Nat → DataW H) : ∀ l : List Nat, (∀ i ∈ l, D0 i = .lit (.string (F i).1.data.toList) ∧ D1 i = .lit (.string (F i).2.data.toList)) →
    En.tot (prF (l.map F)) + l.length ≤ 4 * Rows.uptoBulkAll (l.map fun i => DataW.agg [D0 i, D1 i])
  | [], _ => by simp [prF, En.tot]
  | i :: l, h => by
    have ih := bulk_prs F D0 D1 l fun j hj => h j (by simp [hj])
    obtain ⟨e0, e1⟩ := h i (by simp)
    have z0 : (F i).1.data.toList.length = (F i).1.size := by simp
    have z1 : (F i).2.data.toList.length = (F i).2.size := by simp
    show (4 + (F i).1.size + (4 + (F i).2.size + En.tot (prF (l.map F)))) + (l.length + 1) ≤ 4 * Rows.uptoBulkAll (DataW.agg [D0 i, D1 i] :: l.map fun i => DataW.agg [D0 i, D1 i])
    rw [e0, e1]
    simp only [Rows.uptoBulkAll, Rows.uptoBulk]
    omega
theorem tot_prF : ∀ L : List (ByteArray × ByteArray), 8 * L.length ≤ En.tot (prF L)
  | [] => Nat.zero_le _
  | a :: L => by
    have := tot_prF L
    show 8 * (L.length + 1) ≤ 4 + a.1.size + (4 + a.2.size + En.tot (prF L))
    omega
/-- A slice of pairs that came in. -/
theorem open_prs {H : Type} {enc : TypeId × Value → H} {W : World} {t e : TypeId} {f0 f1 : Field} (ht : Tryz.prog.underlying t = some (.slice e)) (he : Tryz.prog.underlying e = some (.struct #[f0, f1])) (ce : Tryz.prog.cellsOf e = 2) (o0 : f0.offset = 0) (o1 : f1.offset = 1) (t0 : f0.type = 9) (t1 : f1.type = 9)
    {fuel : Nat} {c : Value} {x : DataW H × List MemPlace} (h : DataW.trod enc Tryz.prog W 0 (fun _ => true) true fuel t [c] = some x) :
    ∃ (a : Option Addr) (L : List (ByteArray × ByteArray)) (cap : Nat), c = .slice a L.length cap ∧ Prs W a L ∧ En.tot (prF L) + L.length ≤ 4 * Rows.uptoBulk x.1 := by
  rcases Go.Deep.open_slice_pairs ht he ce o0 o1 (by rw [t0]; exact cells9) (by rw [t1]; exact cells9) h with ⟨hcs, _⟩ | ⟨a, len, cap, m, n, V0, V1, D0, D1, P0, P1, hcs, _, hl, hm, hmm, hd, hrow⟩
  · simp only [List.cons.injEq, and_true] at hcs
    exact ⟨none, [], 0, hcs, .inl rfl, by simp [prF, En.tot]⟩
  · simp only [List.cons.injEq, and_true] at hcs
    have hm' : m = cap := by simpa using hmm
    obtain ⟨F, hF⟩ := Go.Deep.choose_lt (α := ByteArray × ByteArray) (p := fun i o => W.cell? (a.add (i * 2)) = some (.string o.1) ∧ W.cell? (a.add (i * 2 + 1)) = some (.string o.2) ∧ D0 i = .lit (.string o.1.data.toList) ∧ D1 i = .lit (.string o.2.data.toList)) (n := len) (fun i hi => by
      obtain ⟨g0, g1, k0, k1⟩ := hrow i (by omega)
      rw [t0] at k0
      rw [t1] at k1
      obtain ⟨s0, r0, q0, _⟩ := DataW.trod_string Tryz.underlying9 k0
      obtain ⟨s1, r1, q1, _⟩ := DataW.trod_string Tryz.underlying9 k1
      simp only [List.cons.injEq, and_true] at r0 r1
      exact ⟨(s0, s1), by rw [g0, r0], by rw [g1, r1], (Prod.mk.inj q0).1, (Prod.mk.inj q1).1⟩)
    refine ⟨some a, (List.range len).map F, cap, by rw [hcs]; simp, ?_, ?_⟩
    · by_cases h0 : len = 0
      · subst h0; exact .inl rfl
      · obtain ⟨b, off, spot⟩ := a
        have hc0 := (hF 0 (by omega)).1
        have hspot : spot = none := by simpa [Addr.add] using World.cell?_spot hc0
        subst hspot
        refine .inr ⟨b, off, rfl, ?_, fun j hj => ?_⟩
        · have := block_lt_of_cell hc0
          simpa [Addr.add] using this
        · have hj' : j < len := by simpa using hj
          have hc := hF j hj'
          have e : ((List.range len).map F)[j] = F j := by simp
          rw [e]
          have u0 := hc.1
          have u1 := hc.2.1
          rw [Addr.add_lit] at u0 u1
          exact ⟨u0, u1⟩
    · have hb := bulk_prs F D0 D1 (List.range len) fun i hi => (hF i (List.mem_range.1 hi)).2.2
      rw [hd]
      simp only [Rows.uptoBulk]
      simp only [List.length_map]
      omega

theorem list11 {α : Type} {xs : List α} (h : xs.length = 11) : ∃ x0 x1 x2 x3 x4 x5 x6 x7 x8 x9 x10, xs = [x0, x1, x2, x3, x4, x5, x6, x7, x8, x9, x10] := by
  match xs, h with
  | [x0, x1, x2, x3, x4, x5, x6, x7, x8, x9, x10], _ => exact ⟨x0, x1, x2, x3, x4, x5, x6, x7, x8, x9, x10, rfl⟩
theorem arr12 {xs : Array Value} (h : xs.size = 12) : ∃ c0 c1 c2 c3 c4 c5 c6 c7 c8 c9 c10 c11, xs = #[c0, c1, c2, c3, c4, c5, c6, c7, c8, c9, c10, c11] := by
  obtain ⟨l⟩ := xs
  have h' : l.length = 12 := h
  match l, h' with
  | [c0, c1, c2, c3, c4, c5, c6, c7, c8, c9, c10, c11], _ => exact ⟨c0, c1, c2, c3, c4, c5, c6, c7, c8, c9, c10, c11, rfl⟩
theorem tx_len (n : Int) (h : -9223372036854775808 ≤ n ∧ n ≤ 9223372036854775807) : (tx n).size ≤ 21 := by
  show (Lib.itoa n).toArray.size ≤ 21
  rw [List.size_toArray]
  exact Lib.itoa_length_le n h.1 h.2
theorem wf_i64 {n : Int} (h : (Lit.int .i64 n).wf = true) : -9223372036854775808 ≤ n ∧ n ≤ 9223372036854775807 := by simpa [Lit.wf, IntKind.min, IntKind.max, IntKind.signed, IntKind.bits] using h

set_option maxRecDepth 20000 in
set_option maxHeartbeats 2000000 in
/-- A version that came in. -/
theorem open_ver {H : Type} {enc : TypeId × Value → H} {W : World} {r : Reach} {b0 : Nat} {v : Value} {d : DataW H} {p : List MemPlace} (hv : Value.okWide Tryz.prog W r b0 30 v) (h : DataW.Trod enc Tryz.prog W 0 (fun _ => true) true 30 v d p) (hb : Rows.uptoBulk d ≤ 1048576) :
    ∃ (vk et ty : ByteArray) (vseq size time start rsz : Int) (nul mar : Bool) (M T : List (ByteArray × ByteArray)) (ha ta : Option Addr) (hc tc : Nat), v = .agg #[.string vk, .int .i64 vseq, .bool nul, .bool mar, .string et, .int .i64 size, .int .i64 time, .string ty, .slice ha M.length hc, .slice ta T.length tc, .int .i64 start, .int .i64 rsz] ∧ Prs W ha M ∧ Prs W ta T ∧ M.length ≤ 1048576 ∧ T.length ≤ 1048576 ∧
      (-9223372036854775808 ≤ vseq ∧ vseq ≤ 9223372036854775807) ∧ (-9223372036854775808 ≤ size ∧ size ≤ 9223372036854775807) ∧ (-9223372036854775808 ≤ time ∧ time ≤ 9223372036854775807) ∧ (-9223372036854775808 ≤ start ∧ start ≤ 9223372036854775807) ∧ (-9223372036854775808 ≤ rsz ∧ rsz ≤ 9223372036854775807) ∧ En.tot (verF vk et ty vseq size time start rsz nul mar M T) ≤ 8388608 := by
  obtain ⟨cs, rfl, hsz⟩ := okWide_struct Tryz.underlying30 hv
  obtain ⟨c0, c1, c2, c3, c4, c5, c6, c7, c8, c9, c10, c11, rfl⟩ := arr12 (hsz.trans cells30)
  obtain ⟨fuel, hf⟩ := h
  have hf' : DataW.trod enc Tryz.prog W 0 (fun _ => true) true fuel 30 [c0, c1, c2, c3, c4, c5, c6, c7, c8, c9, c10, c11] = some (d, p) := hf
  obtain ⟨xs, k, _, hx, _, hxl, hg⟩ := DataW.trod_struct Tryz.underlying30 hf'
  obtain ⟨x0, x1, x2, x3, x4, x5, x6, x7, x8, x9, x10, rfl⟩ := list11 hxl
  have hd : d = .agg [x0.1, x1.1, x2.1, x3.1, x4.1, x5.1, x6.1, x7.1, x8.1, x9.1, x10.1] := (Prod.mk.inj hx).1
  have f0 : DataW.trod enc Tryz.prog W 0 (fun _ => true) true k 9 [c0] = some x0 := by
    have u : DataW.trod enc Tryz.prog W 0 (fun _ => true) true k 9 (([c0, c1, c2, c3, c4, c5, c6, c7, c8, c9, c10, c11].drop 0).take (Tryz.prog.cellsOf 9)) = [x0, x1, x2, x3, x4, x5, x6, x7, x8, x9, x10][0]? := hg 0 _ rfl
    rw [cells9] at u
    exact u
  have f1 : DataW.trod enc Tryz.prog W 0 (fun _ => true) true k 3 [c1] = some x1 := by
    have u : DataW.trod enc Tryz.prog W 0 (fun _ => true) true k 3 (([c0, c1, c2, c3, c4, c5, c6, c7, c8, c9, c10, c11].drop 1).take (Tryz.prog.cellsOf 3)) = [x0, x1, x2, x3, x4, x5, x6, x7, x8, x9, x10][1]? := hg 1 _ rfl
    rw [cells3] at u
    exact u
  have f2 : DataW.trod enc Tryz.prog W 0 (fun _ => true) true k 4 [c2] = some x2 := by
    have u : DataW.trod enc Tryz.prog W 0 (fun _ => true) true k 4 (([c0, c1, c2, c3, c4, c5, c6, c7, c8, c9, c10, c11].drop 2).take (Tryz.prog.cellsOf 4)) = [x0, x1, x2, x3, x4, x5, x6, x7, x8, x9, x10][2]? := hg 2 _ rfl
    rw [cells4] at u
    exact u
  have f3 : DataW.trod enc Tryz.prog W 0 (fun _ => true) true k 4 [c3] = some x3 := by
    have u : DataW.trod enc Tryz.prog W 0 (fun _ => true) true k 4 (([c0, c1, c2, c3, c4, c5, c6, c7, c8, c9, c10, c11].drop 3).take (Tryz.prog.cellsOf 4)) = [x0, x1, x2, x3, x4, x5, x6, x7, x8, x9, x10][3]? := hg 3 _ rfl
    rw [cells4] at u
    exact u
  have f4 : DataW.trod enc Tryz.prog W 0 (fun _ => true) true k 9 [c4] = some x4 := by
    have u : DataW.trod enc Tryz.prog W 0 (fun _ => true) true k 9 (([c0, c1, c2, c3, c4, c5, c6, c7, c8, c9, c10, c11].drop 4).take (Tryz.prog.cellsOf 9)) = [x0, x1, x2, x3, x4, x5, x6, x7, x8, x9, x10][4]? := hg 4 _ rfl
    rw [cells9] at u
    exact u
  have f5 : DataW.trod enc Tryz.prog W 0 (fun _ => true) true k 3 [c5] = some x5 := by
    have u : DataW.trod enc Tryz.prog W 0 (fun _ => true) true k 3 (([c0, c1, c2, c3, c4, c5, c6, c7, c8, c9, c10, c11].drop 5).take (Tryz.prog.cellsOf 3)) = [x0, x1, x2, x3, x4, x5, x6, x7, x8, x9, x10][5]? := hg 5 _ rfl
    rw [cells3] at u
    exact u
  have f6 : DataW.trod enc Tryz.prog W 0 (fun _ => true) true k 3 [c6] = some x6 := by
    have u : DataW.trod enc Tryz.prog W 0 (fun _ => true) true k 3 (([c0, c1, c2, c3, c4, c5, c6, c7, c8, c9, c10, c11].drop 6).take (Tryz.prog.cellsOf 3)) = [x0, x1, x2, x3, x4, x5, x6, x7, x8, x9, x10][6]? := hg 6 _ rfl
    rw [cells3] at u
    exact u
  have f7 : DataW.trod enc Tryz.prog W 0 (fun _ => true) true k 9 [c7] = some x7 := by
    have u : DataW.trod enc Tryz.prog W 0 (fun _ => true) true k 9 (([c0, c1, c2, c3, c4, c5, c6, c7, c8, c9, c10, c11].drop 7).take (Tryz.prog.cellsOf 9)) = [x0, x1, x2, x3, x4, x5, x6, x7, x8, x9, x10][7]? := hg 7 _ rfl
    rw [cells9] at u
    exact u
  have f8 : DataW.trod enc Tryz.prog W 0 (fun _ => true) true k 26 [c8] = some x8 := by
    have u : DataW.trod enc Tryz.prog W 0 (fun _ => true) true k 26 (([c0, c1, c2, c3, c4, c5, c6, c7, c8, c9, c10, c11].drop 8).take (Tryz.prog.cellsOf 26)) = [x0, x1, x2, x3, x4, x5, x6, x7, x8, x9, x10][8]? := hg 8 _ rfl
    rw [cells26] at u
    exact u
  have f9 : DataW.trod enc Tryz.prog W 0 (fun _ => true) true k 23 [c9] = some x9 := by
    have u : DataW.trod enc Tryz.prog W 0 (fun _ => true) true k 23 (([c0, c1, c2, c3, c4, c5, c6, c7, c8, c9, c10, c11].drop 9).take (Tryz.prog.cellsOf 23)) = [x0, x1, x2, x3, x4, x5, x6, x7, x8, x9, x10][9]? := hg 9 _ rfl
    rw [cells23] at u
    exact u
  have f10 : DataW.trod enc Tryz.prog W 0 (fun _ => true) true k 28 [c10, c11] = some x10 := by
    have u : DataW.trod enc Tryz.prog W 0 (fun _ => true) true k 28 (([c0, c1, c2, c3, c4, c5, c6, c7, c8, c9, c10, c11].drop 10).take (Tryz.prog.cellsOf 28)) = [x0, x1, x2, x3, x4, x5, x6, x7, x8, x9, x10][10]? := hg 10 _ rfl
    rw [cells28] at u
    exact u
  obtain ⟨s0, h0, y0, _⟩ := DataW.trod_string Tryz.underlying9 f0
  obtain ⟨s1, h1, y1, w1⟩ := DataW.trod_int Tryz.underlying3 f1
  obtain ⟨s2, h2, y2⟩ := DataW.trod_bool Tryz.underlying4 f2
  obtain ⟨s3, h3, y3⟩ := DataW.trod_bool Tryz.underlying4 f3
  obtain ⟨s4, h4, y4, _⟩ := DataW.trod_string Tryz.underlying9 f4
  obtain ⟨s5, h5, y5, w5⟩ := DataW.trod_int Tryz.underlying3 f5
  obtain ⟨s6, h6, y6, w6⟩ := DataW.trod_int Tryz.underlying3 f6
  obtain ⟨s7, h7, y7, _⟩ := DataW.trod_string Tryz.underlying9 f7
  obtain ⟨ha, M, hc, rfl, pM, bM⟩ := open_prs Tryz.underlying26 Tryz.underlying81 cells81 rfl rfl rfl rfl f8
  obtain ⟨ta, T, tc, rfl, pT, bT⟩ := open_prs Tryz.underlying23 Tryz.underlying72 cells72 rfl rfl rfl rfl f9
  obtain ⟨ys, k2, _, hy, _, hyl, hg2⟩ := DataW.trod_struct Tryz.underlying28 f10
  have g : ∀ j (hj : j < 2), ∃ x, ys[j]? = some x := fun j hj => ⟨ys[j]'(by rw [hyl]; exact hj), List.getElem?_eq_getElem _⟩
  obtain ⟨y0', e0⟩ := g 0 (by omega)
  obtain ⟨y1', e1⟩ := g 1 (by omega)
  have f11 : DataW.trod enc Tryz.prog W 0 (fun _ => true) true k2 3 [c10] = some y0' := by
    have u : DataW.trod enc Tryz.prog W 0 (fun _ => true) true k2 3 (([c10, c11].drop 0).take (Tryz.prog.cellsOf 3)) = ys[0]? := hg2 0 _ rfl
    rw [cells3, e0] at u
    exact u
  have f12 : DataW.trod enc Tryz.prog W 0 (fun _ => true) true k2 3 [c11] = some y1' := by
    have u : DataW.trod enc Tryz.prog W 0 (fun _ => true) true k2 3 (([c10, c11].drop 1).take (Tryz.prog.cellsOf 3)) = ys[1]? := hg2 1 _ rfl
    rw [cells3, e1] at u
    exact u
  obtain ⟨s10, h10, _, w10⟩ := DataW.trod_int Tryz.underlying3 f11
  obtain ⟨s11, h11, _, w11⟩ := DataW.trod_int Tryz.underlying3 f12
  simp only [List.cons.injEq, and_true] at h0 h1 h2 h3 h4 h5 h6 h7 h10 h11
  subst h0 h1 h2 h3 h4 h5 h6 h7 h10 h11
  have z0 : s0.data.toList.length = s0.size := by simp
  have z4 : s4.data.toList.length = s4.size := by simp
  have z7 : s7.data.toList.length = s7.size := by simp
  rw [hd] at hb
  simp only [Rows.uptoBulk, Rows.uptoBulkAll, y0, y4, y7] at hb
  have u8 := tot_prF M
  have u9 := tot_prF T
  have L1 := tx_len s1 (wf_i64 w1)
  have L5 := tx_len s5 (wf_i64 w5)
  have L6 := tx_len s6 (wf_i64 w6)
  have L10 := tx_len s10 (wf_i64 w10)
  have L11 := tx_len s11 (wf_i64 w11)
  have LM := tx_len (M.length : Int) ⟨by omega, by omega⟩
  have LT := tx_len (T.length : Int) ⟨by omega, by omega⟩
  have N2 : (flF s2).size ≤ 1 := by cases s2 <;> exact Nat.le_refl _
  have N3 : (flF s3).size ≤ 1 := by cases s3 <;> exact Nat.le_refl _
  refine ⟨s0, s4, s7, s1, s5, s6, s10, s11, s2, s3, M, T, ha, ta, hc, tc, rfl, pM, pT, by omega, by omega, wf_i64 w1, wf_i64 w5, wf_i64 w6, wf_i64 w10, wf_i64 w11, ?_⟩
  unfold verF
  have ta' : ∀ L N : List ByteArray, En.tot (L ++ N) = En.tot L + En.tot N := fun L N => by
    induction L with
    | nil => show En.tot N = 0 + _; omega
    | cons a L ih =>
      show 4 + a.size + En.tot (L ++ N) = 4 + a.size + En.tot L + _
      omega
  rw [ta', ta', ta']
  simp only [En.tot]
  omega
end Go.Proofs.YtbhiabcgjnfpoaaGreatDoor

/-
  The library's contracts of math/bits.Mul and strings.Repeat (the shelf's, proved once over any program), laid at this program.
-/
import Derived.Shelf.Bits.Mul64
import Derived.Shelf.Strings.Repeat
import Derived.Test.YtpmjkgpmidejoaaProg
import Derived.Test.YtpmjkgpmidejoaaRun01
import Derived.BigRegion
import Derived.Laws.CopyOwn
namespace Go.Proofs
open Go.Shelf
def Ytpmjkgpmidejoaa.lays264_ren : Go.Shelf.Ren := ⟨fun | 264 => 79 | n => n, fun | 53 => 126 | 46 => 115 | n => n, fun | n => n⟩
theorem Ytpmjkgpmidejoaa.lays264 : Go.Proofs.Lays.n264 Try.prog Ytpmjkgpmidejoaa.lays264_ren := {
  mixed := by kernel_rfl
  f264 := Try.func79.trans (congrArg some (by kernel_rfl))
  t46 := Try.underlying115
  a46 := Try.isAgg115
  z46 := Try.sizeOf115
  v46 := Try.zeroValue115
  t53 := Try.underlying126
  a53 := Try.isAgg126
  z53 := Try.sizeOf126
  v53 := Try.zeroValue126 }
open Go.RowKit Go.Lib in
theorem Ytpmjkgpmidejoaa.bits_Mul64 (x y : Nat) (hx : x < 18446744073709551616) (hy : y < 18446744073709551616) (w : World) :
    Calls Try.prog 79 #[.int .u64 x, .int .u64 y] w fun e w' => e = .returned (.tuple #[.int .u64 ((x * y / 18446744073709551616 : Nat) : Int), .int .u64 ((x * y % 18446744073709551616 : Nat) : Int)]) ∧ w' = w := Any.bits_Mul64 Ytpmjkgpmidejoaa.lays264 x y hx hy w
def Ytpmjkgpmidejoaa.lays212_ren : Go.Shelf.Ren := ⟨fun | 212 => 60 | 263 => 78 | 264 => 79 | n => n, fun | 46 => 115 | 51 => 106 | 146 => 142 | 53 => 126 | 148 => 144 | n => n, fun | n => n⟩
theorem Ytpmjkgpmidejoaa.lays212 : Go.Proofs.Lays.n212 Try.prog Ytpmjkgpmidejoaa.lays212_ren := {
  mixed := by kernel_rfl
  f212 := Try.func60.trans (congrArg some (by kernel_rfl))
  f263 := Try.func78.trans (congrArg some (by kernel_rfl))
  f264 := Try.func79.trans (congrArg some (by kernel_rfl))
  t46 := Try.underlying115
  a46 := Try.isAgg115
  z46 := Try.sizeOf115
  v46 := Try.zeroValue115
  t51 := Try.underlying106
  a51 := Try.isAgg106
  z51 := Try.sizeOf106
  v51 := Try.zeroValue106
  t53 := Try.underlying126
  a53 := Try.isAgg126
  z53 := Try.sizeOf126
  v53 := Try.zeroValue126
  t146 := Try.underlying142
  a146 := Try.isAgg142
  z146 := Try.sizeOf142
  v146 := Try.zeroValue142
  t148 := Try.underlying144
  a148 := Try.isAgg144
  z148 := Try.sizeOf144
  v148 := Try.zeroValue144 }
open Go.RowKit Go.Lib in
theorem Ytpmjkgpmidejoaa.bits_Mul (x y : Nat) (hx : x < 18446744073709551616) (hy : y < 18446744073709551616) (w : World) :
    Calls Try.prog 60 #[.int .u64 x, .int .u64 y] w fun e w' => e = .returned (.tuple #[.int .u64 ((x * y / 18446744073709551616 : Nat) : Int), .int .u64 ((x * y % 18446744073709551616 : Nat) : Int)]) ∧ w' = w := Any.bits_Mul Ytpmjkgpmidejoaa.lays212 x y hx hy w
def Ytpmjkgpmidejoaa.lays105_ren : Go.Shelf.Ren := ⟨fun | 105 => 31 | 212 => 60 | 99 => 61 | 165 => 62 | 166 => 63 | 170 => 64 | 169 => 65 | 263 => 78 | 264 => 79 | 206 => 80 | 240 => 81 | 241 => 82 | 276 => 88 | 277 => 89 | n => n, fun | 9 => 9 | 3 => 3 | 4 => 4 | 20 => 20 | 0 => 0 | 46 => 115 | 109 => 116 | 5 => 5 | 72 => 121 | 76 => 124 | 51 => 106 | 146 => 142 | 53 => 126 | 148 => 144 | 70 => 119 | 37 => 38 | 75 => 123 | 127 => 146 | 164 => 149 | 80 => 83 | n => n, fun | n => n⟩
theorem Ytpmjkgpmidejoaa.lays105 : Go.Proofs.Lays.n105 Try.prog Ytpmjkgpmidejoaa.lays105_ren := {
  mixed := by kernel_rfl
  f99 := Try.func61.trans (congrArg some (by kernel_rfl))
  f105 := Try.func31.trans (congrArg some (by kernel_rfl))
  f165 := Try.func62.trans (congrArg some (by kernel_rfl))
  f166 := Try.func63.trans (congrArg some (by kernel_rfl))
  f169 := Try.func65.trans (congrArg some (by kernel_rfl))
  f170 := Try.func64.trans (congrArg some (by kernel_rfl))
  f206 := Try.func80.trans (congrArg some (by kernel_rfl))
  f212 := Try.func60.trans (congrArg some (by kernel_rfl))
  f240 := Try.func81.trans (congrArg some (by kernel_rfl))
  f241 := Try.func82.trans (congrArg some (by kernel_rfl))
  f263 := Try.func78.trans (congrArg some (by kernel_rfl))
  f264 := Try.func79.trans (congrArg some (by kernel_rfl))
  f276 := Try.func88.trans (congrArg some (by kernel_rfl))
  f277 := Try.func89.trans (congrArg some (by kernel_rfl))
  t0 := Try.underlying0
  a0 := Try.isAgg0
  z0 := Try.sizeOf0
  v0 := Try.zeroValue0
  t3 := Try.underlying3
  a3 := Try.isAgg3
  z3 := Try.sizeOf3
  v3 := Try.zeroValue3
  t4 := Try.underlying4
  a4 := Try.isAgg4
  z4 := Try.sizeOf4
  v4 := Try.zeroValue4
  t5 := Try.underlying5
  a5 := Try.isAgg5
  z5 := Try.sizeOf5
  v5 := Try.zeroValue5
  t9 := Try.underlying9
  a9 := Try.isAgg9
  z9 := Try.sizeOf9
  v9 := Try.zeroValue9
  t20 := Try.underlying20
  a20 := Try.isAgg20
  z20 := Try.sizeOf20
  v20 := Try.zeroValue20
  t37 := Try.underlying38
  a37 := Try.isAgg38
  z37 := Try.sizeOf38
  v37 := Try.zeroValue38
  t46 := Try.underlying115
  a46 := Try.isAgg115
  z46 := Try.sizeOf115
  v46 := Try.zeroValue115
  t51 := Try.underlying106
  a51 := Try.isAgg106
  z51 := Try.sizeOf106
  v51 := Try.zeroValue106
  t53 := Try.underlying126
  a53 := Try.isAgg126
  z53 := Try.sizeOf126
  v53 := Try.zeroValue126
  t70 := Try.underlying119
  a70 := Try.isAgg119
  z70 := Try.sizeOf119
  v70 := Try.zeroValue119
  t72 := Try.underlying121
  a72 := Try.isAgg121
  z72 := Try.sizeOf121
  v72 := Try.zeroValue121
  t75 := Try.underlying123
  a75 := Try.isAgg123
  z75 := Try.sizeOf123
  v75 := Try.zeroValue123
  t76 := Try.underlying124
  a76 := Try.isAgg124
  z76 := Try.sizeOf124
  v76 := Try.zeroValue124
  t109 := Try.underlying116
  a109 := Try.isAgg116
  z109 := Try.sizeOf116
  v109 := Try.zeroValue116
  t127 := Try.underlying146
  a127 := Try.isAgg146
  z127 := Try.sizeOf146
  v127 := Try.zeroValue146
  t146 := Try.underlying142
  a146 := Try.isAgg142
  z146 := Try.sizeOf142
  v146 := Try.zeroValue142
  t148 := Try.underlying144
  a148 := Try.isAgg144
  z148 := Try.sizeOf144
  v148 := Try.zeroValue144
  t164 := Try.underlying149
  a164 := Try.isAgg149
  z164 := Try.sizeOf149
  v164 := Try.zeroValue149 }
theorem Ytpmjkgpmidejoaa.Builder_Extra_105 : Builder.Extra Try.prog Ytpmjkgpmidejoaa.lays105_ren := {
  sizeBuilder := by kernel_rfl
  liesBuilder := by kernel_rfl
  t5 := Try.underlying5
  a5 := Try.isAgg5
  z5 := Try.sizeOf5
  v5 := Try.zeroValue5
  infoByte := by kernel_rfl
  cellsByte := by kernel_rfl
  sizeByte := by kernel_rfl
  neB5 := by decide }
open Go.RowKit Go.Lib in
theorem Ytpmjkgpmidejoaa.strings_Repeat_main (s : ByteArray) (c : Nat) (w : World) (hc2 : 2 ≤ c) (hc : c ≤ 9223372036854775807) (hlen : s.size * c ≤ 140737488355328) (h0 : 0 < s.size) :
    Calls Try.prog 31 #[.string s, .int .i64 c] w fun e w' => e = .returned (.string ⟨(Lib.repeatL s.data.toList c).toArray⟩) ∧ Below w.heap.size w w' := Any.strings_Repeat_main Ytpmjkgpmidejoaa.lays105 Ytpmjkgpmidejoaa.Builder_Extra_105 s c w hc2 hc hlen h0
end Go.Proofs
/-
  slices.Repeat of one text by its contract.
-/
namespace Go.Proofs.Ytpmjkgpmidejoaa
open Go.RowKit

theorem size9 : (Try.prog.info? 9).map (·.size) = some 1 := by kernel_rfl
/-- The first m of n are b. -/
def fillTo (n m : Nat) (b : ByteArray) : List ByteArray := List.replicate m b ++ List.replicate (n - m) ⟨#[]⟩
theorem made_texts (n : Nat) : (madeCells (Value.string ⟨#[]⟩).cells (n * 1)).toList = scs (List.replicate n ⟨#[]⟩) := by
  apply List.ext_getElem?
  intro i
  simp only [madeCells, scs, Value.cells, Nat.mul_one, List.map_replicate]
  rcases Nat.lt_or_ge i n with h | h
  · simp [h, Nat.mod_one]
  · simp [h]
theorem row_full {w : World} {base e g n : Nat} {xs : List Value} (h : w.ownsRow base e 1 (.slice (some ⟨g, 0, none⟩) n n) n xs) : w.heap[g]? = some (.cells xs.toArray e (0, 0)) := by
  obtain ⟨hl, ⟨hv, _⟩ | ⟨g', cap, cur, hv, _, hh, _, _, hcs, htk⟩⟩ := h
  · simp at hv
  · simp only [Value.slice.injEq, Option.some.injEq, Addr.mk.injEq] at hv
    obtain ⟨⟨rfl, _⟩, _, rfl⟩ := hv
    rw [hh]
    have : cur.toList = xs := by
      rw [← htk, List.take_of_length_le (by simp [hcs])]
    rw [← this]
theorem splice_fill (n m c : Nat) (b : ByteArray) (h : m + c ≤ n) : (scs (fillTo n m b)).take m ++ scs (List.replicate c b) ++ (scs (fillTo n m b)).drop (m + c) = scs (fillTo n (m + c) b) := by
  simp only [scs, fillTo, ← List.map_take, ← List.map_drop, ← List.map_append]
  congr 1
  rw [List.take_append_of_le_length (by simp), List.take_of_length_le (by simp)]
  rw [List.drop_append, List.drop_of_length_le (by simp)]
  simp only [List.length_replicate, List.drop_replicate, List.nil_append, List.append_assoc]
  rw [show n - m - (m + c - m) = n - (m + c) from by omega, ← List.append_assoc, List.replicate_append_replicate]
theorem fill_copy (w : World) (ty : TypeId) (g n m c : Nat) (a : Addr) (sLen sCap dCap : Nat) (b : ByteArray) (hg : w.heap[g]? = some (.cells (scs (fillTo n m b)).toArray 9 (0, 0))) (hm : m ≤ n) (hc : c = Nat.min sLen (n - m)) (hsrc : ∀ j, j < c → w.cell? (a.add j) = some (.string b)) :
    ∃ w', (Builtin.copy_ #[56, 56] ty #[.slice (some ⟨g, m, none⟩) (n - m) dCap, .slice (some a) sLen sCap]).run Try.prog w = .ok (goInt c) w' ∧ w'.heap[g]? = some (.cells (scs (fillTo n (m + c) b)).toArray 9 (0, 0)) ∧ w.grownBy w' (some g) := by
  have hcn : m + c ≤ n := by
    have : c ≤ n - m := by rw [hc]; exact Nat.min_le_right _ _
    omega
  have hsz : (scs (fillTo n m b)).length = n := by simp [scs, fillTo]; omega
  have hl : (scs (List.replicate c b)).length = c := by simp [scs]
  have hrun := run_copy_row (P := Try.prog) w 56 56 ty 9 g m (n - m) dCap a sLen sCap (scs (fillTo n m b)).toArray 9 (scs (List.replicate c b)) Try.underlying56 size9 hg (by rw [hl, hc]) (by
    intro j v hv
    have hj : j < c := by
      have := (List.getElem?_eq_some_iff.1 hv).1
      rw [hl] at this
      exact this
    rw [hsrc j hj]
    rw [scs_get (by simpa using hj)] at hv
    simpa using hv) (by rw [hl]; simp [hsz]; exact hcn) (scs_one _)
  rw [hl] at hrun
  refine ⟨_, hrun, ?_, ⟨rfl, rfl, rfl, by simp, fun k hk hne => setRow_other w g k _ (by intro e; subst e; exact hne rfl)⟩⟩
  rw [setRow_heap w g _ _ 9 _ hg]
  exact congrArg (fun x => some (Obj.cells (List.toArray x) 9 (0, 0))) (splice_fill n m c b hcn)

theorem slice_from (g n m : Nat) (hm : m < n) (wx : World) : (Instr.slice 56 (.slice (some ⟨g, 0, none⟩) n n) (some (.int .i64 (m : Int))) none none).run Try.prog wx = .ok (.slice (some ⟨g, m, none⟩) (n - m) (n - m)) wx := by
  obtain ⟨i0, hi, hz0, hz1, hz2⟩ := info_parts info9
  simp [Instr.slice, run_underlying Try.underlying56, Instr.sliceBounds, run_sliceBound, sizeOf, typeInfo, hi, hz1, (by omega : (m : Int) ≤ (n : Int)), Addr.add]
  rw [if_neg (by omega)]
  split
  · rename_i h; subst h; rfl
  · rfl
theorem slice_upto (g n m : Nat) (hm : m ≤ n) (wx : World) : (Instr.slice 56 (.slice (some ⟨g, 0, none⟩) n n) none (some (.int .i64 (m : Int))) none).run Try.prog wx = .ok (.slice (some ⟨g, 0, none⟩) m n) wx := by
  obtain ⟨i0, hi, hz0, hz1, hz2⟩ := info_parts info9
  simp [Instr.slice, run_underlying Try.underlying56, Instr.sliceBounds, run_sliceBound, sizeOf, typeInfo, hi, (by omega : (m : Int) ≤ (n : Int)), Addr.add]

set_option maxHeartbeats 4000000 in
set_option maxRecDepth 20000 in
theorem repeat_any (gx n : Nat) (b : ByteArray) (w : World) (hx : w.cell? ⟨gx, 0, none⟩ = some (.string b)) (h1 : 1 ≤ n) (hn : n ≤ 4096) :
    Calls Try.prog 32 #[.slice (some ⟨gx, 0, none⟩) 1 1, .int .i64 (n : Int)] w fun e w' => ∃ v', e = .returned v' ∧ w'.ownsRow w.heap.size 9 1 v' n (scs (List.replicate n b)) ∧ Below w.heap.size w w' := by
  obtain ⟨i0, hi, hz0, hz1, hz2⟩ := info_parts info9
  have hm : i0.bytes * n ≤ 281474976710656 := by rw [hz2]; omega
  have hmul := bits_Mul 1 n (by omega) (by omega) w
  rw [Nat.one_mul, Nat.div_eq_of_lt (by omega : n < 18446744073709551616), Nat.mod_eq_of_lt (by omega : n < 18446744073709551616)] at hmul
  have hni : (n : Int) ≤ 4096 := by omega
  have hni1 : (1 : Int) ≤ (n : Int) := by omega
  go_enter Try.func32, Try.ntmps32
  go_wp2_with fail
  refine Calls.mono hmul ?_
  rintro e w1 ⟨rfl, rfl⟩
  have hfirst : ∀ w0 : World, w0.ownsRow w1.heap.size 9 1 (.slice (some ⟨w1.heap.size, 0, none⟩) n n) n (scs (List.replicate n ⟨#[]⟩)) → w1.grownBy w0 none →
      ∃ w2, (Builtin.copy_ #[56, 56] 3 #[.slice (some ⟨w1.heap.size, 0, none⟩) n n, .slice (some ⟨gx, 0, none⟩) 1 1]).run Try.prog w0 = .ok (goInt 1) w2 ∧ w2.heap[w1.heap.size]? = some (.cells (scs (fillTo n 1 b)).toArray 9 (0, 0)) ∧ Below w1.heap.size w1 w2 := by
    intro w0 ho hg
    have hrow := row_full ho
    obtain ⟨w2, e1, e2, e3⟩ := fill_copy w0 3 w1.heap.size n 0 1 ⟨gx, 0, none⟩ 1 1 n b (by simpa [fillTo] using hrow) (Nat.zero_le _) (by show 1 = min 1 (n - 0); omega) (by
      intro j hj
      obtain rfl : j = 0 := by omega
      exact hg.cell hx (by simp))
    refine ⟨w2, by simpa using e1, by simpa using e2, ?_⟩
    exact ((Below.refl _ w1).grown hg (Nat.le_refl _) (by simp)).grown e3 hg.size (by intro k hk; simp at hk; omega)
  have HFI := (show Hid _ from hfirst)
  clear hfirst
  go_wp2_with (at_make; refine wpList_make_full _ rfl _ _ 56 rfl w1.heap.size 9 i0 (.string ⟨#[]⟩) 1 Try.underlying56 hi hz0 hz1 _ _ _ _ n rfl rfl (by omega) (by omega) hm (by unfold maxLen; omega) (Nat.le_refl _) ?_; intro w0 hown0 hgrow0; rw [made_texts] at hown0; obtain ⟨w2, hcp, hr2, hb2⟩ := HFI.out w0 hown0 hgrow0; clear hown0 hgrow0)
  have HR2 := (show Hid (w2.heap[w1.heap.size]? = some (.cells (scs (fillTo n 1 b)).toArray 9 (0, 0)) ∧ Below w1.heap.size w1 w2) from ⟨hr2, hb2⟩)
  have hx1 := hx
  clear hcp hr2 hb2 hmul HFI hx
  go_loopw [8] (fun q wr => ∃ m : Nat, 1 ≤ m ∧ m ≤ n ∧ q = .int .i64 m ∧ wr.heap[w1.heap.size]? = some (.cells (scs (fillTo n m b)).toArray 9 (0, 0)) ∧ Below w1.heap.size w1 wr)
    (fun q _ => n - (intOf q).toNat)
  case atStart => exact ⟨1, Nat.le_refl _, h1, rfl, HR2.out.1, HR2.out.2⟩
  case round =>
    obtain ⟨m, hm1, hmn, rfl, hr, hb⟩ := hrel
    clear HR2
    by_cases hlt : m < n
    · have hs1 := slice_from w1.heap.size n m hlt
      have hs2 := slice_upto w1.heap.size n m hmn
      obtain ⟨c, hc⟩ : ∃ c, c = Nat.min m (n - m) := ⟨_, rfl⟩
      have hc' : c = min m (n - m) := hc
      have hc1 : 1 ≤ c := by omega
      have hc2 : m + c ≤ n := by omega
      have hcm : c ≤ m := by omega
      obtain ⟨w3, e1, e2, e3⟩ := fill_copy wr.drew 3 w1.heap.size n m c ⟨w1.heap.size, 0, none⟩ m n (n - m) b hr hmn hc (by
        intro j hj
        rw [Addr.add_lit, Nat.zero_add]
        have := cell_blk (w := wr.drew) hr j
        rw [this, List.getElem?_toArray, scs_get (by simp [fillTo]; omega)]
        rw [show (fillTo n m b)[j]'(by simp [fillTo]; omega) = b from by simp [fillTo, show j < m from by omega]])
      have hmi : (m : Int) < (n : Int) := by omega
      have hci : (m : Int) + (c : Int) ≤ 4096 := by omega
      have HE := (show Hid (w3.heap[w1.heap.size]? = some (.cells (scs (fillTo n (m + c) b)).toArray 9 (0, 0)) ∧ wr.drew.grownBy w3 (some w1.heap.size)) from ⟨e2, e3⟩)
      have HB := (show Hid (Below w1.heap.size w1 wr) from hb)
      have HC := (show Hid (1 ≤ c ∧ m + c ≤ n) from ⟨hc1, hc2⟩)
      clear e2 e3 hb hr hc hc' hcm hc1 hc2
      go_wp2
      go_region
      go_wp2
      go_roundw
      case rel =>
        refine ⟨m + c, by have := HC.out; omega, HC.out.2, by simp, HE.out.1, ?_⟩
        exact HB.out.trans (((Below.refl _ wr).drew).trans ((Below.refl _ _).grown HE.out.2 HB.out.size (by intro k hk; simp at hk; omega)))
      case measure => have := HC.out; simp [intOf]; omega
    · obtain rfl : m = n := by omega
      have HR := (show Hid _ from hr)
      clear hr
      go_wp2
      go_ret
      refine ⟨_, rfl, ⟨by simp [scs], .inr ⟨w1.heap.size, m, _, rfl, Nat.le_refl _, HR.out, Nat.le_refl _, by unfold maxLen; omega, by simp [scs, fillTo], ?_⟩⟩, hb⟩
      simp [fillTo, scs]
end Go.Proofs.Ytpmjkgpmidejoaa

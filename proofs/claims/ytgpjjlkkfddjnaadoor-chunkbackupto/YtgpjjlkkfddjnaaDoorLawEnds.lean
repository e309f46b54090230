/-
  ChunkEnds: the law's walk.
-/
import Derived.Test.YtgpjjlkkfddjnaaDoorLwA
import Derived.Test.YtgpjjlkkfddjnaaDoorChE
import Derived.Deep.RegionHeld3
namespace Go.Proofs.YtgpjjlkkfddjnaaDoor
open Go.RowKit

theorem own_sln {w : World} {base : Nat} {v : Value} {l : List UInt8} (h : Own w base v l) : ∃ a c n, v = .slice a n c ∧ n = l.length ∧ Sl w a c l := by
  obtain ⟨a, c, h1, h2⟩ := own_sl h
  exact ⟨a, c, _, h1, rfl, h2⟩
theorem news_kept {X w4 : World} {row : Option Nat} {g : Nat} (hg : X.grownBy w4 row) (hc : X.heap[g]? = some (.cells #[.int .u8 120] 5 (0, 0))) (hne : row ≠ some g) : ∀ j u, (bcs [120])[j]? = some u → w4.cell? ((⟨g, 0, none⟩ : Addr).add j) = some u := by
  intro j u hj
  have h4 : w4.heap[g]? = some (.cells #[.int .u8 120] 5 (0, 0)) := keep_blk hc (Md.ofGrown hg) (fun e => hne e)
  rw [Addr.add_lit, cell_blk h4]
  simpa [bcs] using hj
theorem encL_pos (x : Wh) (data : List UInt8) (zs : List Int) : 0 < (encL x data zs).length := by
  obtain ⟨ps, h1, -⟩ := cut_shape zs data
  rw [encL, h1]
  cases ps with
  | nil => simp only [List.nil_append, encF, chkT, List.length_append, crT, List.length_cons, List.length_nil]; omega
  | cons p ps => simp only [List.cons_append, encF, chkT, List.length_append, crT, List.length_cons, List.length_nil]; omega
theorem rem_place (n : Int) {L : Nat} (hL : 0 < L) : ∃ k : Nat, k < L ∧ Int.tmod (Int.tmod n (L : Int) + (L : Int)) (L : Int) = (k : Int) := by
  have h1 : -(L : Int) < Int.tmod n (L : Int) := by
    rcases Int.le_total 0 n with h | h
    · have := Int.tmod_nonneg (L : Int) h; omega
    · have h2 := Int.tmod_nonneg (L : Int) (show 0 ≤ -n by omega)
      have h3 := Int.tmod_lt_of_pos (-n) (show (0 : Int) < L by omega)
      rw [Int.neg_tmod] at h3
      omega
  have h2 : 0 ≤ Int.tmod (Int.tmod n (L : Int) + (L : Int)) (L : Int) := Int.tmod_nonneg _ (by omega)
  have h3 := Int.tmod_lt_of_pos (Int.tmod n (L : Int) + (L : Int)) (show (0 : Int) < L by omega)
  exact ⟨(Int.tmod (Int.tmod n (L : Int) + (L : Int)) (L : Int)).toNat, by omega, by omega⟩
theorem step_append_two {P : Program} {w : World} {ops : Array Oper} {o : Oper} {a : Act} {K : Act → World → Prop} {Q : Exit → Act → World → Prop} {E : Prop} (hgd : o.guard = none) (s x : Operand) (t : TypeId)
    (ho : o.op = .call { callee := .builtin .append, args := #[s, x], argTypes := #[t, t] })
    (base : Nat) (e : TypeId) (i : TypeInfo) (z : Value) (size bytes : Nat) (ht : P.underlying t = some (.slice e)) (hi : P.info? e = some i) (hz : i.zero = some z)
    (hsize : i.size = size) (hby : i.bytes = bytes) (hzs : z.cells.size = size) (hsz : 0 < size)
    (v : Value) (n : Nat) (xs : List Value) (hs : a.eval s = v) (hown : w.ownsRow base e size v n xs)
    (ad : Addr) (m c : Nat) (news : List Value) (hx : a.eval x = .slice (some ad) m c) (hl : news.length = m * size) (hnews : ∀ j u, news[j]? = some u → w.cell? (ad.add j) = some u) (h1 : ∀ u ∈ news, u.oneCell' = true)
    (h63 : n + m ≤ maxLen) (hbytes : (n + m) * bytes ≤ 140737488355328) (hbase : base ≤ w.heap.size)
    (h : ∀ v' w', w'.ownsRow base e size v' (n + m) (xs ++ news) → w.grownBy w' v.ownBlock → K (a.put o.dst v') w') :
    if Region.wanted o (yielded ops a.tmps) = true then Oper.wp P o a w K Q else E := by
  have hw : Region.wanted o (yielded ops a.tmps) = true := by simp [Region.wanted, hgd]
  rw [if_pos hw]
  obtain ⟨v', w', hr, h2, h3, h4⟩ := run_append_own (P := P) w base t o.type e i z size bytes ht hi hz hsize hby hzs hsz v n xs hown ad m c news hl hnews h1 h63 hbytes hbase
  unfold Oper.wp execOp
  simp only [ho, resolve, invoke, builtin, Sem.run_bind, Sem.run_pure, Result.andThen_ok, List.map_toArray, List.map_cons, List.map_nil, hs, hx, hr]
  exact h v' w' h2 h3
/-- The append of bytes to a row of one's own, in a drawn region. -/
theorem step_own2 {w w0 : World} {ops : Array Oper} {o : Oper} {a : Act} {K : Act → World → Prop} {Q : Exit → Act → World → Prop} {E : Prop} (hgd : o.guard = none) (s x : Operand)
    (ho : o.op = .call { callee := .builtin .append, args := #[s, x], argTypes := #[22, 22] })
    (base : Nat) (v : Value) (l : List UInt8) (hs : a.eval s = v) (hown : Own w base v l)
    (ad : Addr) (y : List UInt8) (m c : Nat) (hx : a.eval x = .slice (some ad) m c) (hm : m = y.length) (hnews : ∀ j u, (bcs y)[j]? = some u → w.cell? (ad.add j) = some u)
    (hl : l.length + y.length ≤ 100000000000) (hb : Below base w0 w) (hbase : base ≤ w.heap.size)
    (h : ∀ v' w', Own w' base v' (l ++ y) → Below base w0 w' → w.grownBy w' v.ownBlock → K (a.put o.dst v') w') :
    if Region.wanted o (yielded ops a.tmps) = true then Oper.wp Tryd.prog o a w K Q else E := by
  subst hm
  obtain ⟨i0, hi, hz0, hz1, hz2⟩ := info_parts info5
  refine step_append_two hgd s x 22 ho base 5 i0 _ 1 1 Tryd.underlying22 hi hz0 hz1 hz2 rfl (by omega) v l.length (bcs l) hs hown ad y.length c (bcs y) hx (by rw [bcs_length]; omega) hnews (bcs_one _) (by unfold maxLen; omega) (by omega) hbase ?_
  intro v' w' h1 h2
  exact h v' w' (by rw [Own, List.length_append, bcs_append]; exact h1) (hb.grown h2 hbase (fun k hk => (World.ownsRow.lt hown k hk).1)) h2
set_option maxRecDepth 20000 in
set_option maxHeartbeats 4000000 in
theorem chunkEnds_walk (x : Wh) (ka : Option Addr) (kc : Nat) (da : Option Addr) (data : List UInt8) (dc : Nat) (sa : Option Addr) (za : List Int) (sc : Nat) (n : Int) (w : World)
    (hx : WhOk w x ka kc) (hd : Sl w da dc data) (hSa : Ints w sa za) (hdl : data.length ≤ 1000000000) (hal : za.length ≤ 1000000000) (he : Er w) (ht : Tz w) :
    Calls Tryd.prog 7 #[x.v ka kc, .slice da data.length dc, .slice sa za.length sc, .int .i64 n] w fun e w' => e = .returned (.bool true) ∧ Below w.heap.size w w' := by
  have AW := (show Hid (∀ W, Below w.heap.size w W → Calls Tryd.prog 14 #[] W fun e w' => e = .returned (.bool true) ∧ Below w.heap.size w w') from fun W hW => (awake_any W (he.below hW (Nat.le_refl _)) (ht.below hW (Nat.le_refl _))).mono fun e w' ⟨h1, h2⟩ => ⟨h1, hW.trans (h2.mono hW.size)⟩)
  obtain ⟨W, hW⟩ : ∃ W, W = w.alloc (.cells #[.string ⟨x.id.toArray⟩, .string ⟨x.date.toArray⟩, .string ⟨x.scope.toArray⟩, .string ⟨x.sig.toArray⟩, .slice ka x.key.length kc, .string ⟨x.pay.toArray⟩] 24) := ⟨_, rfl⟩
  obtain ⟨N, hN⟩ : ∃ N, N = w.heap.size := ⟨_, rfl⟩
  have nW : W.heap[N]? = some (.cells #[.string ⟨x.id.toArray⟩, .string ⟨x.date.toArray⟩, .string ⟨x.scope.toArray⟩, .string ⟨x.sig.toArray⟩, .slice ka x.key.length kc, .string ⟨x.pay.toArray⟩] 24 (0, 0)) := by rw [hW, hN]; exact heap_alloc_new w _
  have hbW : Below w.heap.size w W := by rw [hW]; exact (Below.refl _ _).alloc (Nat.le_refl _) _
  have HB := (show Hid (Below w.heap.size w W) from hbW)
  have HN := (show Hid _ from nW)
  have HW := (show Hid (WhOk W x ka kc ∧ Sl W da dc data ∧ Ints W sa za ∧ Er W ∧ Tz W) from ⟨hx.below hbW, hd.below hbW, hSa.below hbW, he.below hbW (Nat.le_refl _), ht.below hbW (Nat.le_refl _)⟩)
  have HL := (show Hid (data.length ≤ 1000000000 ∧ za.length ≤ 1000000000) from ⟨hdl, hal⟩)
  clear hx hd hSa hdl hal he ht hbW
  obtain ⟨x0, x1, x2, x3, x4, x5⟩ := six_of nW
  clear nW
  unfold Wh.v
  go_enter Tryd.func7, Tryd.ntmps7
  go_upto_region 1 with fail
  rw [← hN, ← hW]
  clear hN hW
  go_cut [21] from 14 to 20 (fun s w' => s = .bool (decide (2000 < data.length ∨ 40 < za.length)) ∧ W = w')
  case first =>
    by_cases h1 : 2000 < data.length
    · go_wp2
      go_meet
      case rel => exact ⟨by congr 1; rw [Bool.eq_iff_iff]; simp <;> omega, rfl⟩
    · by_cases h2 : 40 < za.length
      · go_wp2
        go_meet
        case rel => exact ⟨by congr 1; rw [Bool.eq_iff_iff]; simp <;> omega, rfl⟩
      · go_wp2
        go_meet
        case rel => exact ⟨by congr 1; rw [Bool.eq_iff_iff]; simp <;> omega, rfl⟩
  obtain ⟨hs25, hw25⟩ := hcut
  subst hs25 hw25
  by_cases hg : 2000 < data.length ∨ 40 < za.length
  · rw [decide_eq_true hg]
    clear hg
    go_wp2_with fail
    refine Calls.mono (AW.out W HB.out) ?_
    rintro e w9 ⟨rfl, hb9⟩
    go_wp2
    go_ret
    exact ⟨rfl, hb9⟩
  · rw [decide_eq_false hg]
    have HG := (show Hid (data.length ≤ 2000 ∧ za.length ≤ 40) from by refine ⟨?_, ?_⟩ <;> omega)
    clear hg
    have KE := (show Hid _ from encode_call HW.out.1 HW.out.2.1 HL.out.1 HW.out.2.2.1 (by have := HG.out; omega) HW.out.2.2.2.2 (sc := sc))
    have hlen := encL_len x data za
    have hpos := encL_pos x data za
    have HC := (show Hid (∀ k, k < (encL x data za).length → decL x data.length ((encL x data za).take k) = ([], 307)) from fun k hk => cut_all x data za data.length HL.out.1 hk)
    have HM := (show Hid (decL x data.length (encL x data za ++ [120]) = ([], 308)) from more_all x data za data.length HL.out.1 (by simp))
    obtain ⟨E, hE⟩ : ∃ E, E = encL x data za := ⟨_, rfl⟩
    rw [← hE] at KE hlen hpos HC HM
    have HEl := (show Hid (E.length ≤ 10000 ∧ 0 < E.length) from by have := HG.out; exact ⟨by omega, hpos⟩)
    unfold Wh.v at KE
    clear hE hlen
    go_wp2_with fail
    refine Calls.mono KE.out ?_
    rintro e w2 ⟨ba, bc, rfl, hs2, hb2⟩
    have HS2 := (show Hid (Sl w2 ba bc E ∧ Below W.heap.size W w2) from ⟨hs2, hb2⟩)
    have n2 := (hb2.block N (blk_lt HN.out)).trans HN.out
    have HN2 := (show Hid _ from n2)
    obtain ⟨x0, x1, x2, x3, x4, x5⟩ := six_of n2
    obtain ⟨k, hk1, hk2⟩ := rem_place n hpos
    have HK := (show Hid (k < E.length) from hk1)
    clear hs2 hb2 n2 KE
    go_upto_region 6 with fail
    have KD := (show Hid (∀ W', Below w2.heap.size w2 W' → Calls Tryd.prog 9 #[x.v ka kc, .slice ba k bc, .int .i64 (data.length : Int)] W' fun e w' => ∃ a' c', e = .returned (.tuple #[.slice a' 0 c', .int .i64 307]) ∧ Below w2.heap.size w2 w') from fun W' hb => by
      have hbw : Below W.heap.size W W' := HS2.out.2.trans (hb.mono HS2.out.2.size)
      have hkl : (E.take k).length = k := by rw [List.length_take]; omega
      have hs := HS2.out.1.below hb
      have h := decode_call (x := x) (ka := ka) (kc := kc) (a := ba) (l := E.take k) (c := bc) (data.length : Int) (HW.out.1.below hbw) ⟨by have := hs.cap; omega, hs.max, bytes_take k hs.by_, hs.lo, hs.nil⟩ (by have := HEl.out; omega) (HW.out.2.2.2.1.below hbw (Nat.le_refl _))
      rw [HC k hk1, hkl] at h
      exact h.mono fun e w' ⟨a', c', h1, h2, h3⟩ => ⟨a', c', h1, hb.trans (h3.mono hb.size)⟩)
    unfold Wh.v at KD
    have hE0 : ¬ (E.length : Int) = 0 := by omega
    have hr1 : -(E.length : Int) < Int.tmod n (E.length : Int) := by
      rcases Int.le_total 0 n with h | h
      · have := Int.tmod_nonneg (E.length : Int) h; omega
      · have h3 := Int.tmod_lt_of_pos (-n) (show (0 : Int) < E.length by omega)
        rw [Int.neg_tmod] at h3
        omega
    have hr2 : Int.tmod n (E.length : Int) < (E.length : Int) := Int.tmod_lt_of_pos n (by omega)
    have hEl : (E.length : Int) ≤ 10000 := by have := HEl.out; omega
    have hkE : (k : Int) ≤ (E.length : Int) := by omega
    have hkc : (k : Int) ≤ (bc : Int) := by have := HS2.out.1.cap; omega
    have hk0 : (0 : Int) ≤ (k : Int) := by omega
    have hkb : k ≤ bc := by omega
    obtain ⟨L, hL⟩ : ∃ L, L = E.length := ⟨_, rfl⟩
    rw [← hL] at hE0 hr1 hr2 hEl hkE hk2 ⊢
    have HLL := (show Hid (L = E.length) from hL)
    have hL0 : ¬ L = 0 := by omega
    have hwr : IntKind.i64.wrap (Int.tmod n (L : Int) + (L : Int)) = Int.tmod n (L : Int) + (L : Int) := by rw [IntKind.wrap_i64]; omega
    have hwr2 : wrap64 (Int.tmod n (L : Int) + (L : Int)) = Int.tmod n (L : Int) + (L : Int) := by rw [wrap64]; omega
    clear HC hL hpos hk1
    go_region_held3 (fun w' => w'.cell? ⟨N, 0, none⟩ = some (.string ⟨x.id.toArray⟩) ∧ w'.cell? ⟨N, 1, none⟩ = some (.string ⟨x.date.toArray⟩) ∧ w'.cell? ⟨N, 2, none⟩ = some (.string ⟨x.scope.toArray⟩) ∧ w'.cell? ⟨N, 3, none⟩ = some (.string ⟨x.sig.toArray⟩) ∧ w'.cell? ⟨N, 4, none⟩ = some (.slice ka x.key.length kc) ∧ w'.cell? ⟨N, 5, none⟩ = some (.string ⟨x.pay.toArray⟩)) (first | go_keep | (exact z3)) (first
      | (go_at_call 9; (with_reducible refine Calls.mono (KD.out _ ((Below.refl _ w2).drew)) ?_); rintro e w3 ⟨a3, c3, rfl, hb3⟩; have z3 := six_of ((hb3.block N (blk_lt HN2.out)).trans HN2.out)))
    have HS3 := (show Hid (Below w2.heap.size w2 w3) from hb3)
    obtain ⟨x0, x1, x2, x3, x4, x5⟩ := z3
    have n3 := (hb3.block N (blk_lt HN2.out)).trans HN2.out
    have HN3 := (show Hid _ from n3)
    have hNlt : N < w3.heap.size := blk_lt n3
    have HB3 := (show Hid (Below W.heap.size W w3) from HS2.out.2.trans (hb3.mono HS2.out.2.size))
    have hSE := HS2.out.1.below hb3
    obtain ⟨b, off, hba, hbs, hcs⟩ := hSE.by_.at (k := 0) HEl.out.2
    subst hba
    have HNEW := (show Hid (∀ X, Below w3.heap.size w3 X → ∀ j u, (bcs E)[j]? = some u → X.cell? ((⟨b, off, none⟩ : Addr).add j) = some u) from fun X hX j u hu => bytes_news (fun i hi => (hX.cell (p := ⟨b, off + i, none⟩) hbs).trans (hcs i hi)) j u hu)
    have hd3 : Below w3.heap.size w3 w3.drew := (Below.refl _ w3).drew
    have HBA := (show Hid (Below w3.heap.size w3 (w3.drew.alloc (.cells #[] 5))) from hd3.alloc hd3.size _)
    have HBB := (show Hid (Below w3.heap.size w3 ((w3.drew.alloc (.cells #[] 5)).alloc (.cells #[.int .u8 120] 5))) from HBA.out.alloc HBA.out.size _)
    have HBX := (show Hid (Below w3.heap.size w3 (w3.drew.alloc (.cells #[.int .u8 120] 5))) from hd3.alloc hd3.size _)
    have HBC := (show Hid (Below w3.heap.size w3 ((w3.drew.alloc (.cells #[.int .u8 120] 5)).alloc (.cells #[] 5))) from HBX.out.alloc HBX.out.size _)
    have HOA := (show Hid (Own (w3.drew.alloc (.cells #[] 5)) w3.heap.size (.slice (some ⟨w3.heap.size, 0, none⟩) 0 0) []) from World.ownsRow_lit w3.drew #[] 0 (Nat.le_refl _) (by decide) rfl)
    have HOB := (show Hid (Own ((w3.drew.alloc (.cells #[] 5)).alloc (.cells #[.int .u8 120] 5)) w3.heap.size (.slice (some ⟨w3.heap.size, 0, none⟩) 0 0) []) from World.ownsRow.alloc HOA.out _)
    have HOC := (show Hid (Own ((w3.drew.alloc (.cells #[.int .u8 120] 5)).alloc (.cells #[] 5)) w3.heap.size (.slice (some ⟨w3.heap.size + 1, 0, none⟩) 0 0) []) from by
      have e : (w3.drew.alloc (.cells #[.int .u8 120] 5)).heap.size = w3.heap.size + 1 := by show (w3.heap.push _).size = _; simp
      have := World.ownsRow_lit (e := 5) (size := 1) (base := w3.heap.size) (w3.drew.alloc (.cells #[.int .u8 120] 5)) #[] 0 (by rw [e]; omega) (by decide) rfl
      rw [e] at this
      exact this)
    have KD2 := (show Hid (∀ W' a c m, m = ([] ++ E ++ [120]).length → Below w3.heap.size w3 W' → Sl W' a c ([] ++ E ++ [120]) → Calls Tryd.prog 9 #[x.v ka kc, .slice a m c, .int .i64 (data.length : Int)] W' fun e w' => ∃ a' c', e = .returned (.tuple #[.slice a' 0 c', .int .i64 308]) ∧ Below w3.heap.size w3 w') from fun W' a c m hm hb hs => by
      subst hm
      have hbw : Below W.heap.size W W' := HB3.out.trans (hb.mono HB3.out.size)
      have h := decode_call (x := x) (ka := ka) (kc := kc) (a := a) (l := [] ++ E ++ [120]) (c := c) (data.length : Int) (HW.out.1.below hbw) hs (by have := HEl.out; simp only [List.nil_append, List.length_append, List.length_cons, List.length_nil]; omega) (HW.out.2.2.2.1.below hbw (Nat.le_refl _))
      rw [show decL x data.length ([] ++ E ++ [120]) = ([], 308) from HM.out] at h
      exact h.mono fun e w' ⟨a', c', h1, h2, h3⟩ => ⟨a', c', h1, hb.trans (h3.mono hb.size)⟩)
    unfold Wh.v at KD2
    have HXB := (show Hid (((w3.drew.alloc (.cells #[] 5)).alloc (.cells #[.int .u8 120] 5)).heap[w3.heap.size + 1]? = some (.cells #[.int .u8 120] 5 (0, 0))) from by
      have e : (w3.drew.alloc (.cells #[] 5)).heap.size = w3.heap.size + 1 := by show (w3.heap.push _).size = _; simp
      show _ = _
      rw [← e]
      exact heap_alloc_new _ _)
    have HXC := (show Hid (((w3.drew.alloc (.cells #[.int .u8 120] 5)).alloc (.cells #[] 5)).heap[w3.heap.size]? = some (.cells #[.int .u8 120] 5 (0, 0))) from by
      have e : (w3.drew.alloc (.cells #[.int .u8 120] 5)).heap[w3.heap.size]? = some (.cells #[.int .u8 120] 5 (0, 0)) := heap_alloc_new w3.drew _
      exact (heap_alloc_old _ _ (blk_lt e)).trans e)
    clear hb3 n3 hSE hbs hcs KD hwr hwr2 hr1 hr2 hkE hkc hkb hk2 hk0 hd3 hE0 hEl
    go_upto_region 7 with fail
    go_region_held3 (fun w' => w'.cell? ⟨N, 0, none⟩ = some (.string ⟨x.id.toArray⟩) ∧ w'.cell? ⟨N, 1, none⟩ = some (.string ⟨x.date.toArray⟩) ∧ w'.cell? ⟨N, 2, none⟩ = some (.string ⟨x.scope.toArray⟩) ∧ w'.cell? ⟨N, 3, none⟩ = some (.string ⟨x.sig.toArray⟩) ∧ w'.cell? ⟨N, 4, none⟩ = some (.slice ka x.key.length kc) ∧ w'.cell? ⟨N, 5, none⟩ = some (.string ⟨x.pay.toArray⟩)) (first | go_keep | (exact z3) | (exact z4) | (exact z5) | (exact z6)) (first
      | (refine step_own2 rfl (.tmp 51) (.tmp 52) rfl w3.heap.size _ [] rfl (by first | exact HOA.out | exact HOB.out | exact HOC.out) ⟨b, off, none⟩ E L bc rfl HLL.out (HNEW.out _ (by first | exact HBA.out | exact HBB.out | exact HBC.out)) (by have := HEl.out; simp only [List.length_nil]; omega) (by first | exact HBA.out | exact HBB.out | exact HBC.out) (by first | exact HBA.out.size | exact HBB.out.size | exact HBC.out.size) ?_; intro v4 w4 ho4 hb4 hg4; have z4 := six_of ((hb4.block N hNlt).trans HN3.out))
      | (refine step_own2 rfl (.tmp 53) (.tmp 54) rfl w3.heap.size v4 ([] ++ E) rfl (by first | exact ho4 | exact World.ownsRow.alloc ho4 _) _ [120] 1 1 rfl rfl (by first | exact one_new _ _ _ | exact news_kept hg4 HXB.out (fun e => by have := Option.some.inj (show some w3.heap.size = some (w3.heap.size + 1) from e); omega) | exact news_kept hg4 HXC.out (fun e => by have := Option.some.inj (show some (w3.heap.size + 1) = some w3.heap.size from e); omega)) (by have := HEl.out; simp only [List.nil_append, List.length_cons, List.length_nil]; omega) (by first | exact hb4 | exact hb4.alloc hb4.size _) (by first | exact hb4.size | exact (hb4.alloc hb4.size _).size) ?_; intro v5 w5 ho5 hb5 hg5; obtain ⟨a5, c5, n5, rfl, hn5, hs5⟩ := own_sln ho5; have HN5 : Hid (n5 = (([] : List UInt8) ++ E ++ [120]).length) := hn5; clear hn5; have z5 := six_of ((hb5.block N hNlt).trans HN3.out))
      | (go_at_call 9; (with_reducible refine Calls.mono (KD2.out _ _ _ _ HN5.out hb5 hs5) ?_); rintro e w6 ⟨a6, c6, rfl, hb6⟩; have z6 := six_of ((hb6.block N hNlt).trans HN3.out)))
    all_goals
      have AW6 := (show Hid _ from AW.out w6 (HB.out.trans ((HB3.out.trans (hb6.mono HB3.out.size)).mono HB.out.size)))
      clear z4 z5 z6 ho4 hb4 hg4 ho5 hb5 hg5 hs5 hb6 KD2
      go_wp2_with (go_at_call 14; refine Calls.mono AW6.out ?_; rintro e w9 ⟨rfl, hb9⟩)
      go_ret
      exact ⟨rfl, hb9⟩
end Go.Proofs.YtgpjjlkkfddjnaaDoor

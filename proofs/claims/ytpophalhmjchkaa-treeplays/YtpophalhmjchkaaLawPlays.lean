/-
  TreePlays: the law's walk.
-/
import Derived.Test.YtpophalhmjchkaaPlays
import Derived.Deep.CutRange
import Derived.Deep.DeepCutAuto
namespace Go.Proofs.Ytpophalhmjchkaa
open Go.RowKit

theorem own_pos {w : World} {B e s n c m : Nat} {a : Option Addr} {xs : List Value} (h : w.ownsRow B e s (.slice a n c) m xs) (hm : 0 < m) : ∃ g, a = some ⟨g, 0, none⟩ := by
  rcases h.2 with ⟨_, h0⟩ | ⟨g, cap, cur, he, _⟩
  · omega
  · simp only [Value.slice.injEq] at he
    exact ⟨g, he.1⟩
set_option maxRecDepth 100000 in
set_option maxHeartbeats 16000000 in
theorem plays_walk (a : Option Addr) (c : Nat) (ops : List OpT) (ka : Option Addr) (kc : Nat) (asks : List ByteArray) (w : World) (ho : Ops w a ops) (hk : Txs w ka asks) :
    Calls Try.prog 3 #[.slice a ops.length c, .slice ka asks.length kc] w fun e w' => e = .returned (.bool true) ∧ Below w.heap.size w w' := by
  obtain ⟨n, hn0⟩ : ∃ n, n = ops.length := ⟨_, rfl⟩
  obtain ⟨kn, hkn0⟩ : ∃ kn, kn = asks.length := ⟨_, rfl⟩
  rw [← hn0, ← hkn0]
  have HN : Hid (n = ops.length ∧ kn = asks.length) := ⟨hn0, hkn0⟩
  have HO : Hid (Ops w a ops ∧ Txs w ka asks) := ⟨ho, hk⟩
  clear hn0 hkn0 ho hk
  obtain ⟨i4, hi4, hy0, hy1, hy2⟩ := info_parts info24
  obtain ⟨i7, hi7, hx0, hx1, hx2⟩ := info_parts info27
  have HI4 : Hid (Try.prog.info? 24 = some i4 ∧ i4.zero = some (.pointer none) ∧ i4.size = 1 ∧ i4.bytes = 8) := ⟨hi4, hy0, hy1, hy2⟩
  have HI7 : Hid (Try.prog.info? 27 = some i7 ∧ i7.zero = some (.slice none 0 0) ∧ i7.size = 1 ∧ i7.bytes = 24) := ⟨hi7, hx0, hx1, hx2⟩
  clear hi4 hy0 hy1 hy2 hi7 hx0 hx1 hx2
  go_enter Try.func3, Try.ntmps3
  go_wp2_with (first
    | (go_at_call 8; refine Calls.mono (new_any _) ?_; rintro e w1 ⟨b0, rfl, ht0, hb0⟩)
    | (go_at_call 9; refine Calls.mono (awake_any _) ?_; rintro e w2 ⟨rfl, hb2⟩))
  have hpi0 : PI w w2 b0 (WL ops 0) (.slice none 0 0) (WL ops 0) (.slice none 0 0) (.slice none 0 0) [] [] := by
    refine ⟨⟨_, _, ht0.below hb2, rfl⟩, ⟨none, 0, rfl, Sl.none _ _⟩, PRow.nil _ _ _, PRow.nil _ _ _, fun i hi => by simp at hi, hb0.trans (hb2.mono hb0.size)⟩
  have HP0 : Hid _ := hpi0
  clear hpi0 ht0 hb0 hb2
  go_loopw [5, 6, 7, 8, 9] (fun tv lv ov wv iv wr => ∃ (j b : Nat) (us vs : List Value), tv = .pointer (some ⟨b, 0, none⟩) ∧ iv = .int .i64 j ∧ j ≤ n ∧ j ≤ 150 ∧ vs.length ≤ j ∧ us.length = vs.length ∧ PI w wr b (WL ops j) lv (WL ops j) ov wv us vs) (fun _ _ _ _ iv _ => n - (intOf iv).toNat)
  case atStart => exact ⟨0, b0, [], [], rfl, rfl, Nat.zero_le _, Nat.zero_le _, Nat.le_refl _, rfl, HP0.out⟩
  case round =>
    clear HP0
    obtain ⟨j, b, us, vs, rfl, rfl, hj, hj150, hvj, huv, hpi⟩ := hrel
    by_cases hlt : j < n ∧ j < 150
    · have hlo : j < ops.length := by have := HN.out; omega
      obtain ⟨bb, off, rfl, hcc⟩ := HO.out.1.at hlo
      obtain ⟨c0, c1, c2⟩ := hcc wr hpi.old
      have HWS : Hid (WL ops (j + 1) = withL ops[j].1 ops[j].2.1 ops[j].2.2 (WL ops j) ∧ Srt (WL ops j) ∧ (WL ops j).length ≤ j) := ⟨WL_succ hlo, WL_srt ops j (by omega), WL_len ops j (by omega)⟩
      obtain ⟨x, hx⟩ : ∃ x, x = ops[j].1 := ⟨_, rfl⟩
      obtain ⟨y, hy⟩ : ∃ y, y = ops[j].2.1 := ⟨_, rfl⟩
      obtain ⟨d, hd⟩ : ∃ d, d = ops[j].2.2 := ⟨_, rfl⟩
      obtain ⟨L, hL⟩ : ∃ L, L = WL ops j := ⟨_, rfl⟩
      rw [← hx] at c0 HWS
      rw [← hy] at c1 HWS
      rw [← hd] at c2 HWS
      rw [← hL] at hpi HWS
      have hji : (j : Int) < (n : Int) := by omega
      have hji2 : (j : Int) < 150 := by omega
      have hA : Below wr.heap.size wr (wr.alloc (.cells #[.string x, .string y, .bool d] 31)) := (Below.refl _ _).alloc (Nat.le_refl _) _
      have hpiA := hpi.below hA
      have hobA : OB (wr.alloc (.cells #[.string x, .string y, .bool d] 31)) wr.heap.size x y d := heap_alloc_new wr _
      obtain ⟨hh, tt, htr, htl⟩ := hpiA.tr
      obtain ⟨sa, sc, rfl, hsl⟩ := hpiA.sl
      have hget := get_any b hh tt x _ htr
      rw [htl] at hget
      have HG : Hid (∀ w2, Below (wr.alloc (.cells #[.string x, .string y, .bool d] 31)).heap.size (wr.alloc (.cells #[.string x, .string y, .bool d] 31)) w2 → PI w w2 b L (.slice sa L.length sc) L u7 u8 us vs ∧ OB w2 wr.heap.size x y d ∧ Calls Try.prog 11 #[.slice sa L.length sc, .string x] w2 (fun e w' => e = .returned (.tuple #[.string ((getL x L).getD ⟨#[]⟩), .bool (getL x L).isSome]) ∧ w2 = w')) := (by
        intro w2 hb2
        have h11 := refGet_any sa sc L x w2 (hsl.below hb2) (by have := HWS.out.2.2; omega)
        rw [fnd_srt HWS.out.2.1] at h11
        exact ⟨hpiA.below hb2, hobA.below hb2, h11⟩)
      obtain ⟨gs, hgs⟩ : ∃ gs, gs = (getL x L).getD ⟨#[]⟩ := ⟨_, rfl⟩
      obtain ⟨gb, hgb⟩ : ∃ gb, gb = (getL x L).isSome := ⟨_, rfl⟩
      rw [← hgs, ← hgb] at hget HG
      have HGB : Hid (gb = (getL x L).isSome) := hgb
      have HLJ : Hid (L = WL ops j) := hL
      clear hcc hx hy hd hL hlo hlt hpi hA hpiA hobA htr htl hsl hgs hgb
      obtain ⟨Ln, hLn⟩ : ∃ Ln, Ln = L.length := ⟨_, rfl⟩
      rw [← hLn] at HG ⊢
      have HLN : Hid (Ln = L.length) := hLn
      clear hLn
      go_upto_if 64 with (first
        | (go_at_call 10; refine Calls.mono hget ?_; rintro e w3 ⟨rfl, hb3⟩; have hpi3 := (HG.out w3 hb3).1; have hob3 := (HG.out w3 hb3).2.1; have h11 := (HG.out w3 hb3).2.2; have k0 := hob3.cells.1; have k2 := hob3.cells.2.2; clear hget HG hb3)
        | (go_at_call 11; refine Calls.mono h11 ?_; rintro e w4 ⟨rfl, rfl⟩; clear h11))
      have HPI : Hid (PI w w3 b L (.slice sa Ln sc) L u7 u8 us vs ∧ OB w3 wr.heap.size x y d) := ⟨hpi3, hob3⟩
      have HBJ : Hid (vs.length ≤ j ∧ us.length = vs.length ∧ j < 150) := ⟨hvj, huv, by omega⟩
      clear hpi3 hob3 hvj huv k0 k2
      go_cut [7, 8] from 62 to 72 (fun ov wv wc => ∃ us vs, vs.length ≤ j + 1 ∧ us.length = vs.length ∧ PI w wc b L (.slice sa Ln sc) L ov wv us vs ∧ OB wc wr.heap.size x y d)
      case first =>
        rcases Bool.eq_false_or_eq_true ((j : Int) % 17 == 3) with h17 | h17
        · have hpi3 := HPI.out.1
          have hvj := HBJ.out.1
          have huv := HBJ.out.2.1
          have hA : Below w3.heap.size w3 (w3.alloc (.cells #[.pointer (some ⟨b, 0, none⟩)] 24)) := (Below.refl _ _).alloc (Nat.le_refl _) _
          have hpA := hpi3.below hA
          have hoA := HPI.out.2.below hA
          have hro := hpA.ro
          have hcA : (w3.alloc (.cells #[.pointer (some ⟨b, 0, none⟩)] 24)).cell? ⟨w3.heap.size, 0, none⟩ = some (.pointer (some ⟨b, 0, none⟩)) := cell_blk (heap_alloc_new w3 _) 0
          have hszA : w.heap.size ≤ (w3.alloc (.cells #[.pointer (some ⟨b, 0, none⟩)] 24)).heap.size := hpA.old.size
          have hub : us.length + 1 ≤ 200 := by have := HBJ.out; omega
          go_wp2_with (first
            | (at_builtin; refine wpList_append_P rfl (.tmp 65) (.tmp 67) 28 rfl w.heap.size 24 i4 (.pointer none) 8 Try.underlying28 HI4.out.1 HI4.out.2.1 HI4.out.2.2.1 HI4.out.2.2.2 rfl rfl u7 us.length us rfl hro ⟨w3.heap.size, 0, none⟩ 1 (.pointer (some ⟨b, 0, none⟩)) rfl hcA rfl rfl (by unfold maxLen; omega) (by omega) hszA ?_; intro ov2 w5 hp5 hg5; have hB5 : Below w5.heap.size w5 (w5.alloc (.cells #[.slice sa Ln sc] 27)) := (Below.refl _ _).alloc (Nat.le_refl _) _; have hp6 := (hpA.snocO hp5 hg5).below hB5; have ho6 := (hoA.trn (hro.trn hg5) (by decide)).below hB5; have hrw6 := hp6.rw; have hcB : (w5.alloc (.cells #[.slice sa Ln sc] 27)).cell? ⟨w5.heap.size, 0, none⟩ = some (.slice sa Ln sc) := cell_blk (heap_alloc_new w5 _) 0; have hszB := hp6.old.size)
            | (at_builtin; refine wpList_append_P rfl (.tmp 69) (.tmp 71) 29 rfl w.heap.size 27 i7 (.slice none 0 0) 24 Try.underlying29 HI7.out.1 HI7.out.2.1 HI7.out.2.2.1 HI7.out.2.2.2 rfl rfl u8 vs.length vs rfl hrw6 ⟨w5.heap.size, 0, none⟩ 1 (.slice sa Ln sc) rfl hcB rfl rfl (by unfold maxLen; omega) (by omega) hszB ?_; intro wv2 w7 hp7 hg7))
          go_meet
          case rel =>
            refine ⟨us ++ [.pointer (some ⟨b, 0, none⟩)], vs ++ [.slice sa Ln sc], by simp; omega, by simp; omega, hp6.snocW huv (by have := HWS.out.2.2; have := HBJ.out; omega) hp7 hg7, ho6.trn (hrw6.trn hg7) (by decide)⟩
        · go_wp2
          go_meet
          case rel => exact ⟨us, vs, by have := HBJ.out; omega, HBJ.out.2.1, HPI.out.1, HPI.out.2⟩
      case rest =>
        obtain ⟨us2, vs2, q1, q2, q3, q4⟩ := hcut
        have k2 := q4.cells.2.2
        have k0 := q4.cells.1
        have k1 := q4.cells.2.1
        have HQ : Hid (vs2.length ≤ j + 1 ∧ us2.length = vs2.length) := ⟨q1, q2⟩
        obtain ⟨hh, tt, htr, htl⟩ := q3.tr
        have HPB : Hid (PI w wc b L (.slice sa Ln sc) L u7 u8 us2 vs2 ∧ OB wc wr.heap.size x y d) := ⟨q3, q4⟩
        clear q1 q2 q3 q4 HPI
        go_upto_if 74 with fail
        go_cut [5] from 73 to 97 (fun tv wd => ∃ b2, tv = .pointer (some ⟨b2, 0, none⟩) ∧ PI w wd b2 (withL x y d L) (.slice sa Ln sc) L u7 u8 us2 vs2 ∧ OB wd wr.heap.size x y d)
        case first =>
          cases d with
          | true =>
            cases gb with
            | true =>
              have hdel := del_some b hh tt x wc htr (by rw [htl]; exact HGB.out.symm) (by rw [htl]; have := HWS.out.2.2; omega)
              rw [htl] at hdel
              clear htr htl
              go_wp2_with (go_at_call 12; refine Calls.mono hdel ?_; rintro e w5 ⟨b2, rfl, hg5⟩)
              go_meet
              case rel => exact ⟨b2, rfl, HPB.out.1.got hg5, HPB.out.2.below (by obtain ⟨_, _, _, _, q⟩ := hg5; exact q)⟩
            | false =>
              have hdel := del_none b hh tt x wc htr (by rw [htl]; exact HGB.out.symm)
              have hno : withL x y true L = L := del_no (by have := HGB.out; cases hq : getL x L with | none => rfl | some v => rw [hq] at this; cases this)
              clear htr htl
              go_wp2_with (go_at_call 12; refine Calls.mono hdel ?_; rintro e w5 ⟨rfl, hb5⟩)
              go_meet
              case rel => exact ⟨b, rfl, by rw [hno]; exact HPB.out.1.below hb5, HPB.out.2.below hb5⟩
          | false =>
            have hput := put_any b hh tt x y wc htr (by rw [htl]; have := HWS.out.2.2; omega)
            rw [htl] at hput
            clear htr htl
            go_wp2_with (go_at_call 13; refine Calls.mono hput ?_; rintro e w5 ⟨b2, rfl, hg5⟩)
            go_meet
            case rel => exact ⟨b2, rfl, HPB.out.1.got hg5, HPB.out.2.below (by obtain ⟨_, _, _, _, q⟩ := hg5; exact q)⟩
        case rest =>
          obtain ⟨b2, rfl, hp2, ho2⟩ := hcut
          have k2 := ho2.cells.2.2
          have k0 := ho2.cells.1
          have k1 := ho2.cells.2.1
          obtain ⟨L2, hL2⟩ : ∃ L2, L2 = withL x y d L := ⟨_, rfl⟩
          rw [← hL2] at hp2 HWS
          have HR : Hid (Calls Try.prog 14 #[.slice sa Ln sc, .agg #[.string x, .string y, .bool d]] wc fun e w6 => ∃ a2 c2, e = .returned (.slice a2 L2.length c2) ∧ Calls Try.prog 15 #[.pointer (some ⟨b2, 0, none⟩), .slice a2 L2.length c2] w6 fun e w7 => e = .returned (.bool true) ∧ PI w w7 b2 L2 (.slice a2 L2.length c2) L2 u7 u8 us2 vs2) := (by
            obtain ⟨sa', sc', e, hsl⟩ := hp2.sl
            simp only [Value.slice.injEq] at e
            obtain ⟨rfl, rfl, rfl⟩ := e
            refine Calls.mono (refWith_any sa sc L x y d wc hsl HWS.out.2.1 (by have := HWS.out.2.2; omega)) ?_
            rintro e w6 ⟨u, rfl, ho6, hb6⟩
            rw [← hL2] at ho6
            have hp6 := hp2.list ho6 hb6
            obtain ⟨a2, c2, rfl, hs6⟩ := hp6.sl
            obtain ⟨h6, t6, ht6, htl6⟩ := hp6.tr
            have hln : L2.length < 1000000000 := by rw [← HWS.out.1]; have h0 := WL_len ops (j + 1) (by have := HN.out; omega); omega
            refine ⟨a2, c2, rfl, Calls.mono (same_any b2 h6 t6 L2 a2 c2 w6 ht6 htl6 hs6 hln) ?_⟩
            rintro e w7 ⟨rfl, hb7⟩
            exact ⟨rfl, hp6.below hb7⟩)
          clear hp2 ho2 HPB hL2
          obtain ⟨N2, hN2⟩ : ∃ N2, N2 = L2.length := ⟨_, rfl⟩
          rw [← hN2] at HR
          clear hN2
          go_wp2_with (first
            | (go_at_call 14; refine Calls.mono HR.out ?_; rintro e w6 ⟨a2, c2, rfl, hsm⟩)
            | (go_at_call 15; refine Calls.mono hsm ?_; rintro e w7 ⟨rfl, hp7⟩))
          go_roundw
          case rel => exact ⟨j + 1, b2, us2, vs2, rfl, by go_num, by omega, by omega, HQ.out.1, HQ.out.2, by rw [HWS.out.1]; exact hp7⟩
          case measure => simp [intOf]; omega
    · have HLT : Hid (¬ (j < n ∧ j < 150)) := hlt
      have HPI : Hid (PI w wr b (WL ops j) u6 (WL ops j) u7 u8 us vs) := hpi
      clear hpi hlt
      go_upto_region 8 with fail
      go_cut [33] from 26 to 33 (fun s w' => s = .bool false ∧ w' = wr)
      case first =>
        by_cases hc : j < n
        · have hc1 : (j : Int) < (n : Int) := by omega
          have hc2 : ¬ (j : Int) < 150 := by have := HLT.out; omega
          go_wp2
          go_meet
          case rel => exact ⟨rfl, rfl⟩
        · have hc1 : ¬ (j : Int) < (n : Int) := by omega
          go_wp2
          go_meet
          case rel => exact ⟨rfl, rfl⟩
      case rest =>
        obtain ⟨rfl, rfl⟩ := hcut
        have hjn : j ≤ ops.length := by have := HN.out; omega
        have HS : Hid (Srt (WL ops j) ∧ (WL ops j).length ≤ 150) := ⟨WL_srt ops j hjn, Nat.le_trans (WL_len ops j hjn) hj150⟩
        obtain ⟨L, hL⟩ : ∃ L, L = WL ops j := ⟨_, rfl⟩
        rw [← hL] at HPI HS
        obtain ⟨oa, oc, rfl⟩ := own_slice HPI.out.ro.own
        obtain ⟨wa, wcc, rfl⟩ := own_slice HPI.out.rw.own
        obtain ⟨la, lc, rfl, -⟩ := HPI.out.sl
        obtain ⟨m, hm⟩ : ∃ m, m = vs.length := ⟨_, rfl⟩
        obtain ⟨Ln, hLn⟩ : ∃ Ln, Ln = L.length := ⟨_, rfl⟩
        rw [huv, ← hm, ← hLn] at HPI ⊢
        have HM : Hid (m = vs.length ∧ us.length = vs.length ∧ m ≤ 200 ∧ Ln = L.length) := ⟨hm, huv, by omega, hLn⟩
        have hm2 : m ≤ 200 := by omega
        clear hL hjn hm hLn hvj huv
        go_wp2
        go_loopw [17] (fun iv w2 => ∃ q : Nat, iv = .int .i64 q ∧ q ≤ m ∧ PI w w2 b L (.slice la Ln lc) L (.slice oa m oc) (.slice wa m wcc) us vs) (fun iv _ => m - (intOf iv).toNat)
        case atStart => exact ⟨0, rfl, Nat.zero_le _, HPI.out⟩
        case round =>
          obtain ⟨q, rfl, hq, hp⟩ := hrel
          by_cases hqm : q < m
          · have hqi : (q : Int) < (m : Int) := by omega
            obtain ⟨b', L', a', c', r1, r2, ⟨h', t', r3, r4⟩, r5, r6⟩ := hp.co q (by have := HM.out; omega)
            have hro := hp.ro.own
            have hrw := hp.rw.own
            rw [HM.out.2.1, ← HM.out.1] at hro
            rw [← HM.out.1] at hrw
            obtain ⟨g1, rfl⟩ := own_pos hro (by omega)
            obtain ⟨g2, rfl⟩ := own_pos hrw (by omega)
            have d1 : wr.drew.cell? ⟨g1, q, none⟩ = some (.pointer (some ⟨b', 0, none⟩)) := by
              have := hro.cells (g := g1) rfl q _ r1
              rw [Addr.add_lit, Nat.zero_add] at this
              exact this
            have d2 : wr.drew.cell? ⟨g2, q, none⟩ = some (.slice a' L'.length c') := by
              have := hrw.cells (g := g2) rfl q _ r2
              rw [Addr.add_lit, Nat.zero_add] at this
              exact this
            have hDr := (Below.refl wr.heap.size wr).drew
            have hsm := same_any b' h' t' L' a' c' wr.drew (r3.below hDr) r4 (r5.below hDr) (by omega)
            obtain ⟨n', hn'⟩ : ∃ n', n' = L'.length := ⟨_, rfl⟩
            rw [← hn'] at hsm d2
            have HP2 : Hid (∀ w5, Below wr.drew.heap.size wr.drew w5 → PI w w5 b L (.slice la Ln lc) L (.slice (some ⟨g1, 0, none⟩) m oc) (.slice (some ⟨g2, 0, none⟩) m wcc) us vs ∧ w5.cell? ⟨g1, q, none⟩ = some (.pointer (some ⟨b', 0, none⟩)) ∧ w5.cell? ⟨g2, q, none⟩ = some (.slice a' n' c')) := (by
              intro w5 hb5
              exact ⟨(hp.below hDr).below hb5, (hb5.cell (p := ⟨g1, q, none⟩) (cell_lt d1)).trans d1, (hb5.cell (p := ⟨g2, q, none⟩) (cell_lt d2)).trans d2⟩)
            clear hp r1 r2 r3 r4 r5 r6 hro hrw hDr hn' HPI
            go_wp2
            go_region_held3 (fun w' => w'.cell? ⟨g1, q, none⟩ = some (.pointer (some ⟨b', 0, none⟩)) ∧ w'.cell? ⟨g2, q, none⟩ = some (.slice a' n' c')) (go_keep)
              (first
                | (go_at_call 15; refine Calls.mono hsm ?_; rintro e w5 ⟨rfl, hb5⟩; have s0 := (HP2.out w5 hb5).2.1; have s1 := (HP2.out w5 hb5).2.2))
            have hp5 := (HP2.out w5 hb5).1
            clear HP2 hsm s0 s1 hb5
            go_wp2
            go_roundw
            case rel => exact ⟨q + 1, by go_num, by omega, hp5⟩
            case measure => simp [intOf]; omega
          · obtain rfl : q = m := by omega
            have hqi : ¬ (q : Int) < (q : Int) := by omega
            have HP3 : Hid _ := hp
            clear hp HPI
            go_wp2
            go_loopw [18] (fun iv w2 => ∃ r : Nat, iv = .int .i64 r ∧ r ≤ kn ∧ r ≤ 20 ∧ PI w w2 b L (.slice la Ln lc) L (.slice oa q oc) (.slice wa q wcc) us vs) (fun iv _ => kn - (intOf iv).toNat)
            case atStart => exact ⟨0, rfl, Nat.zero_le _, Nat.zero_le _, HP3.out⟩
            case round =>
              obtain ⟨r, rfl, hr, hr20, hp⟩ := hrel
              clear HP3
              by_cases hlt : r < kn ∧ r < 20
              · have hlo : r < asks.length := by have := HN.out; omega
                obtain ⟨bb, off, rfl, hcc⟩ := HO.out.2.at hlo
                have d0 := hcc wr hp.old
                obtain ⟨x, hx⟩ : ∃ x, x = asks[r] := ⟨_, rfl⟩
                rw [← hx] at d0
                obtain ⟨h', t', r3, r4⟩ := hp.tr
                obtain ⟨sa, sc, es, r5⟩ := hp.sl
                have HPF : Hid (Calls Try.prog 16 #[.pointer (some ⟨b, 0, none⟩), .slice la Ln lc, .string x] wr fun e w5 => e = .returned (.bool true) ∧ PI w w5 b L (.slice la Ln lc) L (.slice oa q oc) (.slice wa q wcc) us vs) := (by
                  show Calls _ _ _ _ _
                  rw [es]
                  refine Calls.mono (fromL_any b h' t' L x sa sc wr r3 r4 HS.out.1 r5 (by have := HS.out.2; omega)) ?_
                  rintro e w5 ⟨rfl, hb5⟩
                  rw [← es]
                  exact ⟨rfl, hp.below hb5⟩)
                have hri : (r : Int) < (kn : Int) := by omega
                have hri2 : (r : Int) < 20 := by omega
                clear hp r3 r4 r5 es hx hcc hlo hlt
                go_wp2_with (go_at_call 16; refine Calls.mono HPF.out ?_; rintro e w5 ⟨rfl, hp5⟩)
                go_roundw
                case rel => exact ⟨r + 1, by go_num, by omega, by omega, hp5⟩
                case measure => simp [intOf]; omega
              · have HLT2 : Hid (¬ (r < kn ∧ r < 20)) := hlt
                have HB : Hid (Below w.heap.size w wr) := hp.old
                clear hp hlt
                by_cases hc : r < kn
                · have hc1 : (r : Int) < (kn : Int) := by omega
                  have hc2 : ¬ (r : Int) < 20 := by have := HLT2.out; omega
                  go_wp2
                  go_ret
                  exact ⟨rfl, HB.out⟩
                · have hc1 : ¬ (r : Int) < (kn : Int) := by omega
                  go_wp2
                  go_ret
                  exact ⟨rfl, HB.out⟩
end Go.Proofs.Ytpophalhmjchkaa

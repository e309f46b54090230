/-
  ChunkBack: the law's walk.
-/
import Derived.Test.YtgpjjlkkfddjnaaDoorBkE
import Derived.Test.YtgpjjlkkfddjnaaDoorLawEnds
namespace Go.Proofs.YtgpjjlkkfddjnaaDoor
open Go.RowKit

set_option maxRecDepth 20000 in
set_option maxHeartbeats 4000000 in
theorem chunkBack_walk (x : Wh) (ka : Option Addr) (kc : Nat) (da : Option Addr) (data : List UInt8) (dc : Nat) (sa : Option Addr) (za : List Int) (sc : Nat) (at_ : Int) (v : UInt8) (w : World)
    (hx : WhOk w x ka kc) (hd : Sl w da dc data) (hSa : Ints w sa za) (hdl : data.length ≤ 1000000000) (hal : za.length ≤ 1000000000) (he : Er w) (ht : Tz w) :
    Calls Tryd.prog 6 #[x.v ka kc, .slice da data.length dc, .slice sa za.length sc, .int .i64 at_, .int .u8 (v.toNat : Int)] w fun e w' => e = .returned (.bool true) ∧ Below w.heap.size w w' := by
  have AW := (show Hid (∀ W, Below w.heap.size w W → Calls Tryd.prog 14 #[] W fun e w' => e = .returned (.bool true) ∧ Below w.heap.size w w') from fun W hW => (awake_any W (he.below hW (Nat.le_refl _)) (ht.below hW (Nat.le_refl _))).mono fun e w' ⟨h1, h2⟩ => ⟨h1, hW.trans (h2.mono hW.size)⟩)
  obtain ⟨W, hW⟩ : ∃ W, W = w.alloc (.cells #[.string ⟨x.id.toArray⟩, .string ⟨x.date.toArray⟩, .string ⟨x.scope.toArray⟩, .string ⟨x.sig.toArray⟩, .slice ka x.key.length kc, .string ⟨x.pay.toArray⟩] 24) := ⟨_, rfl⟩
  obtain ⟨N, hN⟩ : ∃ N, N = w.heap.size := ⟨_, rfl⟩
  have nW : W.heap[N]? = some (.cells #[.string ⟨x.id.toArray⟩, .string ⟨x.date.toArray⟩, .string ⟨x.scope.toArray⟩, .string ⟨x.sig.toArray⟩, .slice ka x.key.length kc, .string ⟨x.pay.toArray⟩] 24 (0, 0)) := by rw [hW, hN]; exact heap_alloc_new w _
  have hbW : Below w.heap.size w W := by rw [hW]; exact (Below.refl _ _).alloc (Nat.le_refl _) _
  have HB := (show Hid (Below w.heap.size w W) from hbW)
  have HN := (show Hid _ from nW)
  have HW := (show Hid (WhOk W x ka kc ∧ Sl W da dc data ∧ Ints W sa za ∧ Er W ∧ Tz W) from ⟨hx.below hbW, hd.below hbW, hSa.below hbW, he.below hbW (Nat.le_refl _), ht.below hbW (Nat.le_refl _)⟩)
  have HL := (show Hid (data.length ≤ 1000000000 ∧ za.length ≤ 1000000000) from ⟨hdl, hal⟩)
  clear hx hd hSa hdl hal he ht hbW
  obtain ⟨x0, x1, x2, x3, x4, x5⟩ := six_of nW
  clear nW
  obtain ⟨vn, hvn⟩ : ∃ vn, vn = v.toNat := ⟨_, rfl⟩
  have HV := (show Hid (vn = v.toNat ∧ vn < 256) from ⟨hvn, by rw [hvn]; exact v.toNat_lt⟩)
  rw [← hvn]
  clear hvn
  unfold Wh.v
  go_enter Tryd.func6, Tryd.ntmps6
  go_upto_region 1 with fail
  rw [← hN, ← hW]
  clear hN hW
  go_cut [29] from 22 to 28 (fun s w' => s = .bool (decide (3000 < data.length ∨ 40 < za.length)) ∧ W = w')
  case first =>
    by_cases h1 : 3000 < data.length
    · go_wp2
      go_meet
      case rel => exact ⟨by congr 1; rw [Bool.eq_iff_iff]; simp <;> omega, rfl⟩
    · by_cases h2 : 40 < za.length
      · go_wp2
        go_meet
        case rel => exact ⟨by congr 1; rw [Bool.eq_iff_iff]; simp <;> omega, rfl⟩
      · go_wp2
        go_meet
        case rel => exact ⟨by congr 1; rw [Bool.eq_iff_iff]; simp <;> omega, rfl⟩
  obtain ⟨hs25, hw25⟩ := hcut
  subst hs25 hw25
  by_cases hg : 3000 < data.length ∨ 40 < za.length
  · rw [decide_eq_true hg]
    clear hg
    go_wp2_with fail
    refine Calls.mono (AW.out W HB.out) ?_
    rintro e w9 ⟨rfl, hb9⟩
    go_wp2
    go_ret
    exact ⟨rfl, hb9⟩
  · rw [decide_eq_false hg]
    have HG := (show Hid (data.length ≤ 3000 ∧ za.length ≤ 40) from by refine ⟨?_, ?_⟩ <;> omega)
    clear hg
    have KE := (show Hid _ from encode_call HW.out.1 HW.out.2.1 HL.out.1 HW.out.2.2.1 (by have := HG.out; omega) HW.out.2.2.2.2 (sc := sc))
    have hlen := encL_len x data za
    have HBK := (show Hid (decL x data.length (encL x data za) = (data, 0) ∧ decL x ((data.length : Int) + 1) (encL x data za) = ([], 307)) from ⟨by rw [back_all x data za _ HL.out.1]; simp, by rw [back_all x data za _ HL.out.1]; rw [if_neg (by omega)]⟩)
    obtain ⟨fp, fr, hf1, hf2, hf3⟩ := enc_first x data za
    obtain ⟨E, hE⟩ : ∃ E, E = encL x data za := ⟨_, rfl⟩
    have HF := (show Hid (E = chkT (sgL x.key x.date x.scope x.sig fp) fp ++ fr ∧ fp.length ≤ data.length ∧ (fp = [] → fr = [])) from ⟨hE.trans hf1, hf2, hf3⟩)
    rw [← hE] at KE hlen HBK
    have HEl := (show Hid (E.length ≤ 20000) from by have := HG.out; show _ ≤ _; omega)
    unfold Wh.v at KE
    clear hE hlen hf1 hf2 hf3
    go_wp2_with fail
    refine Calls.mono KE.out ?_
    rintro e w2 ⟨ba, bc, rfl, hs2, hb2⟩
    have HS2 := (show Hid (Sl w2 ba bc E ∧ Below W.heap.size W w2) from ⟨hs2, hb2⟩)
    obtain ⟨x0, x1, x2, x3, x4, x5⟩ := six_of ((HS2.out.2.block N (blk_lt HN.out)).trans HN.out)
    have KD := (show Hid (∀ W' (z : Int), Below w2.heap.size w2 W' → Calls Tryd.prog 9 #[x.v ka kc, .slice ba E.length bc, .int .i64 z] W' fun e w' => ∃ a' c', e = .returned (.tuple #[.slice a' (decL x z E).1.length c', .int .i64 (decL x z E).2]) ∧ Sl w' a' c' (decL x z E).1 ∧ Below w2.heap.size w2 w' ∧ Below W'.heap.size W' w') from fun W' z hb => by
      have hbw : Below W.heap.size W W' := HS2.out.2.trans (hb.mono HS2.out.2.size)
      exact (decode_call z (HW.out.1.below hbw) (HS2.out.1.below hb) (by have := HEl.out; omega) (HW.out.2.2.2.1.below hbw (Nat.le_refl _))).mono fun e w' ⟨a', c', h1, h2, h3⟩ => ⟨a', c', h1, h2, hb.trans (h3.mono hb.size), h3⟩)
    have KD1 := (show Hid _ from KD.out w2 (data.length : Int) (Below.refl _ _))
    rw [HBK.out.1] at KD1
    unfold Wh.v at KD1
    clear hs2 hb2 KE
    go_wp2_with fail
    refine Calls.mono KD1.out ?_
    rintro e w3 ⟨a3, c3, rfl, hs3, hb3, -⟩
    have HS3 := (show Hid (Sl w3 a3 c3 data ∧ Below w2.heap.size w2 w3) from ⟨hs3, hb3⟩)
    obtain ⟨x0, x1, x2, x3, x4, x5⟩ := six_of (((HS2.out.2.trans (HS3.out.2.mono HS2.out.2.size)).block N (blk_lt HN.out)).trans HN.out)
    have KD2 := (show Hid _ from KD.out w3 ((data.length : Int) + 1) HS3.out.2)
    rw [HBK.out.2] at KD2
    unfold Wh.v at KD2
    have hw1 : IntKind.i64.wrap ((data.length : Int) + 1) = (data.length : Int) + 1 := by have := HL.out.1; rw [IntKind.wrap_i64]; omega
    clear hs3 hb3 KD1
    go_wp2_with fail
    refine Calls.mono KD2.out ?_
    rintro e w4 ⟨a4, c4, rfl, -, hb4, hk4⟩
    have HB4 := (show Hid (Below w2.heap.size w2 w4 ∧ Below W.heap.size W w4) from ⟨hb4, HS2.out.2.trans (hb4.mono HS2.out.2.size)⟩)
    have hcv1 := (HS3.out.1.below ((show Below w3.heap.size w3 w4 from hk4))).conv
    have hcv2 := (HW.out.2.1.below HB4.out.2).conv
    obtain ⟨DS, hDS⟩ : ∃ DS : ByteArray, DS = ⟨data.toArray⟩ := ⟨_, rfl⟩
    rw [← hDS] at hcv1 hcv2
    clear hDS hb4 hk4 KD2 x0 x1 x2 x3 x4 x5 hw1
    obtain ⟨PL, hPL⟩ : ∃ PL, PL = (hxN fp.length).length + 16 := ⟨_, rfl⟩
    obtain ⟨q1, q2, q3⟩ := eq_place (sig := sgL x.key x.date x.scope x.sig fp) (p := fp) (r := fr) (by have := HF.out.2.1; have := HG.out; omega)
    rw [sgL_len] at q3
    have HQ := (show Hid ((∀ j (h : j < E.length), j < PL → E[j] ≠ 61) ∧ (∀ h : PL < E.length, E[PL] = 61) ∧ PL + 65 ≤ E.length) from by
      obtain ⟨hE, -, -⟩ := HF.out
      subst hE
      subst hPL
      exact ⟨q1, q2, by omega⟩)
    have HPL := (show Hid (PL = (hxN fp.length).length + 16) from hPL)
    clear q1 q2 q3 hPL
    have hSE := HS2.out.1.below HB4.out.1
    obtain ⟨b, off, rfl, hbs, hcs⟩ := hSE.by_.at (k := 0) (by have := HQ.out.2.2; omega)
    have HCS := (show Hid (∀ j (h : j < E.length), w4.cell? ⟨b, off + j, none⟩ = some (.int .u8 (E[j].toNat : Int))) from hcs)
    have HBS := (show Hid (b < w4.heap.size) from hbs)
    clear hcs hbs hSE
    go_wp2_with fail
    go_loopw [16] (fun i wr => ∃ k : Nat, k ≤ PL ∧ i = .int .i64 (k : Int) ∧ wr = w4) (fun i _ => PL - (intOf i).toNat)
    case atStart => exact ⟨0, Nat.zero_le _, rfl, rfl⟩
    case round =>
      obtain ⟨k, hk, rfl, rfl⟩ := hrel
      have hk0 : (0 : Int) ≤ (k : Int) := by omega
      have hkE : k < E.length := by have := HQ.out.2.2; omega
      have hkEi : (k : Int) < (E.length : Int) := by omega
      have hk9 : (k : Int) < 1000000 := by have := HEl.out; omega
      have hcell := HCS.out k hkE
      by_cases hlt : k < PL
      · have hne := HQ.out.1 k hkE hlt
        obtain ⟨cn, hcn⟩ : ∃ cn, cn = E[k].toNat := ⟨_, rfl⟩
        have hcn61 : ¬ (cn : Int) = 61 := by
          intro e
          apply hne
          apply UInt8.toNat_inj.1
          rw [← hcn]
          show cn = 61
          omega
        rw [← hcn] at hcell
        have hb61 : ((cn : Int) == 61) = false := by simpa using hcn61
        have hn61 : ((cn : Int) != 61) = true := by simpa using hcn61
        clear hcn hne hcn61
        go_wp2_with fail
        go_roundw
        case rel => exact ⟨k + 1, by omega, by go_num, by first | rfl | trivial⟩
        case measure => simp [intOf]; omega
      · obtain rfl : k = PL := by omega
        rw [HQ.out.2.1 hkE] at hcell
        have hcell2 : wr.cell? ⟨b, off + k, none⟩ = some (.int .u8 61) := hcell
        clear hcell
        have h65 : ¬ (E.length : Int) < (k : Int) + 65 := by have := HQ.out.2.2; omega
        have hw65 : IntKind.i64.wrap ((k : Int) + 65) = (k : Int) + 65 := by rw [IntKind.wrap_i64]; omega
        by_cases hv0 : vn = 0
        · have AW4 := (show Hid _ from AW.out wr (HB.out.trans (HB4.out.2.mono HB.out.size)))
          subst hv0
          go_wp2_with fail
          refine Calls.mono AW4.out ?_
          rintro e w9 ⟨rfl, hb9⟩
          go_wp2_with fail
          go_ret
          exact ⟨rfl, hb9⟩
        · have hv0i : ((vn : Int) == 0) = false := by simpa using hv0
          have HV0 := (show Hid (¬ vn = 0) from hv0)
          clear hv0
          obtain ⟨i, hi64, hand⟩ := and63_any at_
          have HOA := (show Hid (Own (wr.alloc (.cells #[] 5)) wr.heap.size (.slice (some ⟨wr.heap.size, 0, none⟩) 0 0) []) from World.ownsRow_lit wr #[] 0 (Nat.le_refl _) (by decide) rfl)
          have HBA := (show Hid (Below wr.heap.size wr (wr.alloc (.cells #[] 5))) from (Below.refl _ _).alloc (Nat.le_refl _) _)
          have HNW := (show Hid (∀ j u, (bcs E)[j]? = some u → (wr.alloc (.cells #[] 5)).cell? ((⟨b, off, none⟩ : Addr).add j) = some u) from bytes_news (fun j hj => (HBA.out.cell (p := ⟨b, off + j, none⟩) HBS.out).trans (HCS.out j hj)))
          obtain ⟨i0, hi0, hz0, hz1, hz2⟩ := info_parts info5
          have HI0 := (show Hid (Tryd.prog.info? 5 = some i0 ∧ _ ∧ _ ∧ _) from ⟨hi0, hz0, hz1, hz2⟩)
          clear hi0 hz0 hz1 hz2
          go_upto_region 14 with (at_builtin; refine wpList_append_own _ rfl (.tmp 92) (.tmp 93) 22 rfl wr.heap.size 5 i0 _ 1 1 Tryd.underlying22 HI0.out.1 HI0.out.2.1 HI0.out.2.2.1 HI0.out.2.2.2 rfl (by omega) (.slice (some ⟨wr.heap.size, 0, none⟩) 0 0) 0 (bcs []) rfl HOA.out ⟨b, off, none⟩ E.length bc (bcs E) rfl (by rw [bcs_length]; omega) HNW.out (bcs_one _) (by have := HEl.out; unfold maxLen; omega) (by have := HEl.out; omega) HBA.out.size ?_; intro v5 w5 hown5 hg5 _; have HO5 := (show Hid (Own w5 wr.heap.size v5 E ∧ Below wr.heap.size wr w5) from ⟨by simpa [Own, bcs] using hown5, HBA.out.grown hg5 HBA.out.size (fun j hj => (World.ownsRow.lt HOA.out j hj).1)⟩); clear hown5 hg5)
          obtain ⟨g, c5, rfl⟩ : ∃ g c5, v5 = .slice (some ⟨g, 0, none⟩) E.length c5 := by
            rcases HO5.out.1.2 with ⟨e, h0⟩ | ⟨g, c2, cur, e, _⟩
            · omega
            · exact ⟨g, c2, e⟩
          obtain ⟨d, hd⟩ : ∃ d, d = k + 1 + i := ⟨_, rfl⟩
          have hdE : d < E.length := by have := HQ.out.2.2; omega
          have hcd : w5.cell? ⟨g, d, none⟩ = some (.int .u8 (E[d].toNat : Int)) := by
            rw [World.ownsRow.cellAt HO5.out.1 d (by omega), bcs_get hdE]
          have hfd : w5.frozen? ⟨g, d, none⟩ = false := World.ownsRow.frozenAt HO5.out.1 d
          obtain ⟨nv, hnv⟩ : ∃ nv, nv = E[d] ^^^ v := ⟨_, rfl⟩
          have hxor : bits .xor .u8 (E[d].toNat : Int) (vn : Int) = (nv.toNat : Int) := by rw [HV.out.1, hnv]; exact xor8_any _ _
          have HNE := (show Hid (E[d] ≠ nv) from by show _ ≠ _; rw [hnv]; exact xor8_ne (by rw [← HV.out.1]; exact HV0.out))
          obtain ⟨en, hen⟩ : ∃ en, en = E[d].toNat := ⟨_, rfl⟩
          obtain ⟨mn, hmn⟩ : ∃ mn, mn = nv.toNat := ⟨_, rfl⟩
          rw [← hen] at hcd hxor
          rw [← hmn] at hxor
          have HMN := (show Hid (mn = nv.toNat ∧ mn < 256) from ⟨hmn, by rw [hmn]; exact nv.toNat_lt⟩)
          have hkd : (k : Int) + 1 + (i : Int) = (d : Int) := by omega
          have hd0 : (0 : Int) ≤ (d : Int) := by omega
          have hdi : (d : Int) < (E.length : Int) := by omega
          have hwk : IntKind.i64.wrap ((k : Int) + 1) = (k : Int) + 1 := by rw [IntKind.wrap_i64]; omega
          have hwd : IntKind.i64.wrap ((k : Int) + 1 + (i : Int)) = (d : Int) := by rw [IntKind.wrap_i64]; have := HEl.out; omega
          have HD := (show Hid (d = k + 1 + i ∧ i < 64) from ⟨hd, hi64⟩)
          clear hd hnv hen hmn hcv1 hcv2 hcell2 h65 hw65
          go_upto_region 16 with fail
          obtain ⟨w6, hw6⟩ : ∃ w6, w6 = w5.setCell ⟨g, d, none⟩ (.int .u8 (mn : Int)) := ⟨_, rfl⟩
          rw [← hw6]
          have hst := World.ownsRow.stored HO5.out.1 d (.int .u8 (mn : Int))
          rw [← hw6] at hst
          have ho6 : Own w6 wr.heap.size (.slice (some ⟨g, 0, none⟩) E.length c5) (E.set d nv) := by
            have h := hst.1
            rw [Own, List.length_set, show bcs (E.set d nv) = (bcs E).set d (.int .u8 (mn : Int)) from by rw [HMN.out.1]; simp [bcs, List.map_set]]
            exact h
          have hc6 : w6.cell? ⟨g, d, none⟩ = some (.int .u8 (mn : Int)) := by
            rw [World.ownsRow.cellAt hst.1 d (by omega), List.getElem?_set_self (by rw [bcs_length]; exact hdE)]
          have hb6 : Below wr.heap.size wr w6 := HO5.out.2.grown hst.2 HO5.out.2.size (fun j hj => (World.ownsRow.lt HO5.out.1 j (by first | (cases hj; rfl) | (cases hj; simp [Value.ownBlock]) | (rw [← hj]; rfl))).1)
          have HB6 := (show Hid (Below W.heap.size W w6) from HB4.out.2.trans (hb6.mono HB4.out.2.size))
          obtain ⟨x0, x1, x2, x3, x4, x5⟩ := six_of ((HB6.out.block N (blk_lt HN.out)).trans HN.out)
          have hs6 : Sl w6 (some ⟨g, 0, none⟩) c5 (E.set d nv) := by
            obtain ⟨a9, c9, e9, h9⟩ := own_sl ho6
            simp only [Value.slice.injEq] at e9
            obtain ⟨rfl, -, rfl⟩ := e9
            exact h9
          have HCH := (show Hid (decL x (data.length : Int) (E.set d nv) = ([], if isDg nv = true then 301 else 308)) from by
            obtain ⟨hE, hf2, hf3⟩ := HF.out
            have hne := HNE.out
            have hd9 := HD.out
            have hpl := HPL.out
            subst hE
            have e1 : d = (hxN fp.length).length + 17 + i := by omega
            subst e1
            exact changed x _ fp fr i nv hd9.2 (by have := HG.out; omega) hf3 (by
              have h1 : (chkT (sgL x.key x.date x.scope x.sig fp) fp ++ fr)[(hxN fp.length).length + 17 + i] = (sgL x.key x.date x.scope x.sig fp)[i]'(by rw [sgL_len]; exact hd9.2) := by
                have e2 : chkT (sgL x.key x.date x.scope x.sig fp) fp ++ fr = (hxN fp.length ++ sigT) ++ (sgL x.key x.date x.scope x.sig fp ++ (crT ++ (fp ++ (crT ++ fr)))) := by simp [chkT, List.append_assoc]
                have e3 : (hxN fp.length ++ sigT).length = (hxN fp.length).length + 17 := by rw [List.length_append]; rfl
                simp only [e2]
                rw [List.getElem_append_right (by rw [e3]; omega), List.getElem_append_left (by rw [e3, sgL_len]; omega)]
                simp only [e3]
                congr 1
                omega
              rw [← h1]
              exact hne))
          have K9 := (show Hid _ from decode_call (x := x) (ka := ka) (kc := kc) (data.length : Int) (HW.out.1.below HB6.out) hs6 (by rw [List.length_set]; have := HEl.out; omega) (HW.out.2.2.2.1.below HB6.out (Nat.le_refl _)))
          rw [HCH.out, List.length_set] at K9
          unfold Wh.v at K9
          clear hst ho6 hb6 hs6 hw6 hcd hfd hxor hand hwk hwd hkd
          have hm256 := HMN.out.2
          by_cases hdg : isDg nv = true
          · rw [if_pos hdg] at K9
            have hcs9 : (48 ≤ mn ∧ mn ≤ 57) ∨ (97 ≤ mn ∧ mn ≤ 102) := by
              rw [HMN.out.1]
              simpa [isDg] using hdg
            clear hdg
            rcases hcs9 with h9 | h9
            · have h1 : (48 : Int) ≤ (mn : Int) := by omega
              have h2 : (mn : Int) ≤ 57 := by omega
              clear h9
              go_wp2_with fail
              refine Calls.mono K9.out ?_
              rintro e w7 ⟨a7, c7, rfl, -, hb7⟩
              have AW7 := (show Hid _ from AW.out w7 (HB.out.trans ((HB6.out.trans (hb7.mono HB6.out.size)).mono HB.out.size)))
              clear hb7 K9 x0 x1 x2 x3 x4 x5
              go_wp2_with (go_at_call 14; refine Calls.mono AW7.out ?_; rintro e w9 ⟨rfl, hb9⟩)
              go_ret
              exact ⟨rfl, hb9⟩
            · have h1 : (48 : Int) ≤ (mn : Int) := by omega
              have h2 : ¬ (mn : Int) ≤ 57 := by omega
              have h3 : (97 : Int) ≤ (mn : Int) := by omega
              have h4 : (mn : Int) ≤ 102 := by omega
              clear h9
              go_wp2_with fail
              refine Calls.mono K9.out ?_
              rintro e w7 ⟨a7, c7, rfl, -, hb7⟩
              have AW7 := (show Hid _ from AW.out w7 (HB.out.trans ((HB6.out.trans (hb7.mono HB6.out.size)).mono HB.out.size)))
              clear hb7 K9 x0 x1 x2 x3 x4 x5
              go_wp2_with (go_at_call 14; refine Calls.mono AW7.out ?_; rintro e w9 ⟨rfl, hb9⟩)
              go_ret
              exact ⟨rfl, hb9⟩
          · rw [if_neg hdg] at K9
            have hcs9 : mn < 48 ∨ (57 < mn ∧ mn < 97) ∨ 102 < mn := by
              have h : ¬ ((48 ≤ mn ∧ mn ≤ 57) ∨ (97 ≤ mn ∧ mn ≤ 102)) := by
                rw [HMN.out.1]
                simpa [isDg] using hdg
              omega
            clear hdg
            rcases hcs9 with h9 | h9 | h9
            · have h1 : ¬ (48 : Int) ≤ (mn : Int) := by omega
              have h3 : ¬ (97 : Int) ≤ (mn : Int) := by omega
              clear h9
              go_wp2_with fail
              refine Calls.mono K9.out ?_
              rintro e w7 ⟨a7, c7, rfl, -, hb7⟩
              have AW7 := (show Hid _ from AW.out w7 (HB.out.trans ((HB6.out.trans (hb7.mono HB6.out.size)).mono HB.out.size)))
              clear hb7 K9 x0 x1 x2 x3 x4 x5
              go_wp2_with (go_at_call 14; refine Calls.mono AW7.out ?_; rintro e w9 ⟨rfl, hb9⟩)
              go_ret
              exact ⟨rfl, hb9⟩
            · have h1 : (48 : Int) ≤ (mn : Int) := by omega
              have h2 : ¬ (mn : Int) ≤ 57 := by omega
              have h3 : ¬ (97 : Int) ≤ (mn : Int) := by omega
              clear h9
              go_wp2_with fail
              refine Calls.mono K9.out ?_
              rintro e w7 ⟨a7, c7, rfl, -, hb7⟩
              have AW7 := (show Hid _ from AW.out w7 (HB.out.trans ((HB6.out.trans (hb7.mono HB6.out.size)).mono HB.out.size)))
              clear hb7 K9 x0 x1 x2 x3 x4 x5
              go_wp2_with (go_at_call 14; refine Calls.mono AW7.out ?_; rintro e w9 ⟨rfl, hb9⟩)
              go_ret
              exact ⟨rfl, hb9⟩
            · have h1 : (48 : Int) ≤ (mn : Int) := by omega
              have h2 : ¬ (mn : Int) ≤ 57 := by omega
              have h3 : (97 : Int) ≤ (mn : Int) := by omega
              have h4 : ¬ (mn : Int) ≤ 102 := by omega
              clear h9
              go_wp2_with fail
              refine Calls.mono K9.out ?_
              rintro e w7 ⟨a7, c7, rfl, -, hb7⟩
              have AW7 := (show Hid _ from AW.out w7 (HB.out.trans ((HB6.out.trans (hb7.mono HB6.out.size)).mono HB.out.size)))
              clear hb7 K9 x0 x1 x2 x3 x4 x5
              go_wp2_with (go_at_call 14; refine Calls.mono AW7.out ?_; rintro e w9 ⟨rfl, hb9⟩)
              go_ret
              exact ⟨rfl, hb9⟩
end Go.Proofs.YtgpjjlkkfddjnaaDoor

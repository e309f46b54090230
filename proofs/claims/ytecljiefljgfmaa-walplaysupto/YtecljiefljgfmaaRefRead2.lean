/-
  The document reads a log's next frame where it is short enough.
-/
import Derived.Test.YtecljiefljgfmaaRefRead
import Derived.Test.YtecljiefljgfmaaRowQ
namespace Go.Proofs.Ytecljiefljgfmaa
open Go.RowKit

theorem dFrame_length (ep nx : Nat) (pay : List UInt8) : (dFrame ep nx pay).length = 24 + pay.length := by
  rw [dFrame, List.length_append, List.length_append, be_length, be_length, dTail_length]; omega

set_option maxHeartbeats 8000000 in
set_option maxRecDepth 20000 in
theorem rread_fit {w ws : World} {d r m : Nat} {K : Nat → Prop} {M : D} {N : R} (h : Pair w ws d r K M N) (hs : Sim M N) (hst : M.st ≠ 2) (hS : ∀ x ∈ M.S, x.size = 256) (hW : N.W.length ≤ 10000) (p n ep nx us : Nat) (dd : Bool) (hm : RLog ws m r p n ep nx us dd) (hn : p + n ≤ M.L.length) (hus : us < n) (hep : ep < 18446744073709551616) (hnx : nx < 18446744073709551616) (ln sk : Nat) (hln : ln = frLen M.S ⟨p + us, p + n, ep, nx, dd⟩) (hskE : sk = sect (24 + ln)) (hfit : sk ≤ n - us) (X : Option (List ByteArray)) (hX : X = fr M.S ⟨p + us, p + n, ep, nx, dd⟩) (sv : Int) (hsv : sv = if X.isSome then (sk : Int) else 0) :
    Calls Try.prog 45 #[.pointer (some ⟨m, 0, none⟩)] ws fun e w' => ∃ v, e = .returned (.tuple #[v, .int .i64 sv, .int .i64 0]) ∧ OwnS w' ws.heap.size v (X.getD []) ∧ Below ws.heap.size ws w' := by
  have hlen := h.ok.len
  have htop := h.ok.top
  obtain ⟨hd1, hd2⟩ := fr_doc (S := M.S) (g := ⟨p + us, p + n, ep, nx, dd⟩) hS (by show p + n ≤ _; omega) (by show p + us < p + n; omega)
  rw [← hln] at hd1 hd2
  rw [if_neg (by show ¬ p + n - (p + us) < sect (24 + ln); omega)] at hd2
  obtain ⟨B, hB⟩ : ∃ B, B = frAll M.S ⟨p + us, p + n, ep, nx, dd⟩ := ⟨_, rfl⟩
  have hBs : B = (secs M.S (p + us) sk).take (24 + ln) := by rw [hB, frAll, ← hln, hskE]
  rw [← hB, ← hX] at hd2
  obtain ⟨x, hx⟩ : ∃ x, x = M.S[p + us]'(by omega) := ⟨_, rfl⟩
  have hx256 : x.size = 256 := by rw [hx]; exact hS _ (List.getElem_mem _)
  have hxl : x.data.toList.length = 256 := by simpa using hx256
  have hs1 : secs M.S (p + us) 1 = x.data.toList := by
    rw [secs_succ (k := 0) (by omega), hx]
    simp [secs]
  have hvx : vl x.data.toList 4 = ln := by rw [hd1, frHead, sect24, vl_takeN (by omega), hs1]
  have hrd := p_rread ((p + us : Nat) : Int) (h.below (Below.refl _ _).drew) (by omega)
  rw [sim_rd_ok hs hst (i := p + us) (by omega), ← hx] at hrd
  obtain ⟨W1, k1, hcv1, hf1, hq1, hb1⟩ := conv_q x ws.drew (by omega)
  rw [hx256] at hcv1 hq1
  rw [← hs1] at hq1
  have hwp : IntKind.i64.wrap ((p : Int) + (us : Int)) = (p : Int) + (us : Int) := by rw [IntKind.wrap_i64]; omega
  rw [show ((p + us : Nat) : Int) = (p : Int) + (us : Int) from by omega] at hrd
  have c0 := cell_blk hm 0
  have c1 := cell_blk hm 1
  have c5 := cell_blk hm 5
  simp only [List.getElem?_toArray] at c0 c1 c5
  have d0 : ws.drew.cell? ⟨m, 0, none⟩ = some (.pointer (some ⟨r, 0, none⟩)) := c0
  have d1 : ws.drew.cell? ⟨m, 1, none⟩ = some (.int .i64 (p : Int)) := c1
  have d5 : ws.drew.cell? ⟨m, 5, none⟩ = some (.int .i64 (us : Int)) := c5
  have HF1 := (show Hid (Fresh W1 ws.drew.heap.size x ∧ Below ws.drew.heap.size ws.drew W1 ∧ RLog ws m r p n ep nx us dd ∧ vl x.data.toList 4 = ln ∧ x.data.toList.length = 256) from ⟨hf1, hb1, hm, hvx, hxl⟩)
  have HQ1 := (show Hid (OwnQ W1 ws.heap.size (.slice (some ⟨ws.heap.size, 0, none⟩) 256 k1) (secs M.S (p + us) 1)) from hq1)
  have HRD : Hid (∀ q (k : Nat), Below ws.heap.size ws q → (hk : k < sk) → ∃ t : ByteArray, t.size = 256 ∧ secs M.S (p + us) (k + 1) = secs M.S (p + us) k ++ t.data.toList ∧ Calls Try.prog 59 #[.pointer (some ⟨r, 0, none⟩), .int .i64 ((p : Int) + (us : Int) + (k : Int))] q.drew fun e w' => e = .returned (.tuple #[.string t, .int .i64 0]) ∧ q.drew = w') := (by
    intro q k hq hk
    have hlt : p + us + k < M.S.length := by omega
    have := p_rread ((p + us + k : Nat) : Int) ((h.below hq).below (Below.refl _ _).drew) (by omega)
    rw [sim_rd_ok hs hst hlt] at this
    rw [show ((p + us + k : Nat) : Int) = (p : Int) + (us : Int) + (k : Int) from by omega] at this
    exact ⟨M.S[p + us + k], hS _ (List.getElem_mem _), secs_succ hlt, this⟩)
  have HLG : Hid (∀ q, Below ws.heap.size ws q → RLog q m r p n ep nx us dd) := fun q hq => (hq.block m (Array.getElem?_eq_some_iff.1 hm).1).trans hm
  have HSL : Hid (∀ k, k ≤ sk → (secs M.S (p + us) k).length = 256 * k) := fun k hk => secs_length hS (by omega)
  have hskl : 24 + ln ≤ 256 * sk := by rw [hskE]; exact sect_le _
  have hsk1 : 1 ≤ sk := by rw [hskE]; unfold sect; omega
  have hsk4 : sk ≤ 4096 := by omega
  have HBB : Hid (B = (secs M.S (p + us) sk).take (24 + ln) ∧ B.length = 24 + ln) := ⟨hBs, by rw [hBs, List.length_take, HSL.out sk (Nat.le_refl _)]; omega⟩
  have HX : Hid (X = if dFrame ep nx (B.drop 24) = B then unp ((B.drop 24).length + 1) (B.drop 24) else none) := hd2
  have hpb : p + us ≤ 4096 := by omega
  have hnb : n ≤ 4096 := by omega
  have HSV : Hid (sv = if X.isSome then (sk : Int) else 0) := hsv
  clear hsv h hs hst hm hS hx hlen hf1 hb1 hvx hxl hx256 hq1 hs1 hd1 hd2 hX hB hBs hln hn
  go_enter Try.func45, Try.ntmps45
  go_wp2
  go_region_held3 (fun w' => w'.cell? ⟨m, 0, none⟩ = some (.pointer (some ⟨r, 0, none⟩)) ∧ w'.cell? ⟨m, 1, none⟩ = some (.int .i64 (p : Int)) ∧ w'.cell? ⟨m, 5, none⟩ = some (.int .i64 (us : Int))) (go_keep)
    (first
      | (go_at_call 59; refine Calls.mono hrd ?_; rintro e w5 ⟨rfl, rfl⟩))
  go_upto_region 5 with fail
  obtain ⟨l, hl⟩ : ∃ l : List UInt8, l = x.data.toList := ⟨_, rfl⟩
  have hby : Bytes W1 (some ⟨ws.heap.size, 0, none⟩) l := by rw [hl]; exact HF1.out.1.bytes
  have hll : l.length = 256 := by rw [hl]; exact HF1.out.2.2.2.2
  obtain ⟨b, off, he, hbb, hcs⟩ := hby.at (k := 0) (by omega)
  have hc : ∀ j (h : j < l.length), W1.cell? ⟨ws.heap.size, j, none⟩ = some (.int .u8 (nb l j)) := fun j h => by
    cases he
    have := hcs j h
    rw [Nat.zero_add] at this
    rw [this, nb_cell h]
  have e0 := hc 0 (by omega)
  have e1 := hc 1 (by omega)
  have e2 := hc 2 (by omega)
  have e3 := hc 3 (by omega)
  have n0 := nb_bd l 0
  have n1 := nb_bd l 1
  have n2 := nb_bd l 2
  have n3 := nb_bd l 3
  have HV : Hid (nb l 0 * 16777216 + nb l 1 * 65536 + nb l 2 * 256 + nb l 3 = (ln : Nat)) := (show _ = _ from by
    have := vl_drop l 0
    rw [List.drop_zero] at this
    rw [← HF1.out.2.2.2.1, ← hl]
    exact this)
  clear he hbb hcs hc hby hl hcv1 c0 c1 c5 d0 d1 d5
  go_wp2_with fail
  go_quiet (fail)
  rw [HV.out]
  have hln4 : ln < 4294967296 := by rw [← HF1.out.2.2.2.1]; exact vl4_bd _
  obtain ⟨Y, hY⟩ : ∃ Y, Y = W1.drewN nq := ⟨_, rfl⟩
  have hBY : Below ws.heap.size ws Y := by
    rw [hY]
    exact below_drewN ((Below.refl _ ws).drew.trans (HF1.out.2.1.mono (Nat.le_refl _))) _
  have HQY : Hid (OwnQ Y ws.heap.size (.slice (some ⟨ws.heap.size, 0, none⟩) 256 k1) (secs M.S (p + us) 1)) := (by rw [hY]; exact HQ1.out)
  rw [← hY]
  have hse := refSectors_any (24 + ln) Y (by omega)
  rw [show ((24 + ln : Nat) : Int) = 24 + (ln : Int) from by omega, ← hskE] at hse
  have hmy := HLG.out Y hBY
  have k2 := cell_blk hmy 2
  have k5 := cell_blk hmy 5
  simp only [List.getElem?_toArray] at k2 k5
  have hgt : ¬ (n : Int) - (us : Int) < (sk : Int) := by omega
  have hwq : IntKind.i64.wrap ((n : Int) - (us : Int)) = (n : Int) - (us : Int) := by rw [IntKind.wrap_i64]; omega
  have HBY : Hid (Below ws.heap.size ws Y) := hBY
  clear e0 e1 e2 e3 n0 n1 n2 n3 HV HF1 hY hBY hmy hll HQ1 hskE
  go_upto_region 7 with (go_at_call 54; refine Calls.mono hse ?_; rintro e w6 ⟨rfl, rfl⟩)
  go_wp2_with fail
  go_quiet (fail)
  go_wp2
  clear k2 k5 hgt hwq hse
  go_loopw [7, 10] (fun v iv q => ∃ k : Nat, 1 ≤ k ∧ k ≤ sk ∧ iv = .int .i64 k ∧ OwnQ q ws.heap.size v (secs M.S (p + us) k) ∧ Below ws.heap.size ws q) (fun _ iv _ => sk - (intOf iv).toNat)
  case atStart => exact ⟨1, Nat.le_refl _, hsk1, rfl, HQY.out, below_drewN HBY.out _⟩
  case round =>
    obtain ⟨k, hk0, hk, rfl, hown, hbw⟩ := hrel
    clear HQY
    by_cases hlt : k < sk
    · obtain ⟨t, ht256, hsec, hrd2⟩ := HRD.out wr k hbw hlt
      have hm2 := HLG.out wr hbw
      have c0 := cell_blk hm2 0
      have c1 := cell_blk hm2 1
      have c5 := cell_blk hm2 5
      simp only [List.getElem?_toArray] at c0 c1 c5
      have d0 : wr.drew.cell? ⟨m, 0, none⟩ = some (.pointer (some ⟨r, 0, none⟩)) := c0
      have d1 : wr.drew.cell? ⟨m, 1, none⟩ = some (.int .i64 (p : Int)) := c1
      have d5 : wr.drew.cell? ⟨m, 5, none⟩ = some (.int .i64 (us : Int)) := c5
      have hwk : IntKind.i64.wrap ((p : Int) + (us : Int) + (k : Int)) = (p : Int) + (us : Int) + (k : Int) := by rw [IntKind.wrap_i64]; omega
      have hsl := HSL.out k hk
      have hk4 : k ≤ 4097 := by omega
      have hlti : (k : Int) < (sk : Int) := by omega
      have HSE : Hid (secs M.S (p + us) (k + 1) = secs M.S (p + us) k ++ t.data.toList) := hsec
      have HO : Hid (OwnQ wr.drew ws.heap.size u7 (secs M.S (p + us) k)) := hown
      have HOB : Hid (∀ z, u7.ownBlock = some z → ws.heap.size ≤ z) := (by
        obtain ⟨g, cap, rfl, _, _, hg, _⟩ := hown.open
        intro z hz
        simp only [Value.ownBlock, Option.some.injEq] at hz
        omega)
      have hsz2 := hbw.size
      have HBW : Hid (Below ws.heap.size ws wr.drew) := hbw.drew
      clear hsec hown hm2 hbw HLG
      go_wp2
      go_region_held3 (fun w' => w'.cell? ⟨m, 0, none⟩ = some (.pointer (some ⟨r, 0, none⟩)) ∧ w'.cell? ⟨m, 1, none⟩ = some (.int .i64 (p : Int)) ∧ w'.cell? ⟨m, 5, none⟩ = some (.int .i64 (us : Int))) (go_keep)
        (first
          | (go_at_call 59; refine Calls.mono hrd2 ?_; rintro e w5 ⟨rfl, rfl⟩))
      go_wp2_with (at_builtin; refine wpList_appendQ rfl (.tmp 100) (.tmp 101) rfl ws.heap.size _ _ rfl HO.out t rfl ?c1 ?c2 ?_)
      case c1 => rw [hsl, ht256]; omega
      case c2 => exact hsz2
      intro v2 w2 hown2 hgrow2
      have R : OwnQ w2 ws.heap.size v2 (secs M.S (p + us) (k + 1)) := by rw [HSE.out]; exact hown2
      have hbl2 : Below ws.heap.size ws w2 := HBW.out.grown hgrow2 hsz2 HOB.out
      clear hown2 hgrow2
      go_wp2
      go_roundw
      case rel => exact ⟨k + 1, by omega, by omega, by go_num, R, hbl2⟩
      case measure => simp [intOf]; omega
    · obtain rfl : k = sk := by omega
      obtain ⟨g, cap, rfl, hby, hlc, hgb, hglt⟩ := hown.open
      rw [HSL.out k (Nat.le_refl _)] at hlc ⊢
      obtain ⟨u, hu⟩ : ∃ u, u = 24 + ln := ⟨_, rfl⟩
      obtain ⟨tk, htk⟩ : ∃ tk, tk = 256 * k := ⟨_, rfl⟩
      rw [← htk] at hlc hskl ⊢
      obtain ⟨c2, hc2⟩ : ∃ c2, c2 = cap - 24 := ⟨_, rfl⟩
      have hc256 : 256 ≤ cap := by omega
      have hsl2 : ∀ wx, (Instr.slice 50 (.slice (some ⟨g, 0, none⟩) tk cap) none (some (.int .i64 (24 + (ln : Int)))) none).run Try.prog wx = .ok (.slice (some ⟨g, 0, none⟩) u cap) wx := fun wx => by
        have := slice_hi (some ⟨g, 0, none⟩) tk cap u (by omega) wx
        rw [show (u : Int) = 24 + (ln : Int) from by omega] at this
        exact this
      have hs24 : ∀ wx, (Instr.slice 50 (.slice (some ⟨g, 0, none⟩) u cap) (some (.int .i64 24)) none none).run Try.prog wx = .ok (.slice (some ⟨g, 24, none⟩) ln c2) wx := fun wx => by
        have := slice24 g 0 u cap (by omega) (by omega) wx
        rw [Nat.zero_add, show u - 24 = ln from by omega, ← hc2] at this
        exact this
      obtain ⟨hB1, hB2⟩ := HBB.out
      have hbyB : Bytes wr (some ⟨g, 0, none⟩) B := by rw [hB1]; exact hby.take _
      obtain ⟨Pl, hPl⟩ : ∃ Pl, Pl = B.drop 24 := ⟨_, rfl⟩
      have hbyP : Bytes wr (some ⟨g, 24, none⟩) Pl := by
        have := hbyB.drop 24
        rwa [Nat.zero_add, ← hPl] at this
      have hPll : Pl.length = ln := by rw [hPl, List.length_drop, hB2]; omega
      have hln6 : ln ≤ 1048576 := by omega
      obtain ⟨y, hy⟩ : ∃ y : ByteArray, y = ⟨B.toArray⟩ := ⟨_, rfl⟩
      obtain ⟨z, hz⟩ : ∃ z : ByteArray, z = ⟨(dFrame ep nx Pl).toArray⟩ := ⟨_, rfl⟩
      have HCY : Hid (∀ q, Below wr.heap.size wr q → (convert 50 9 (.slice (some ⟨g, 0, none⟩) u cap)).run Try.prog q = .ok (.string y) q) := (by
        intro q hq
        have := convert_bytes q (some ⟨g, 0, none⟩) cap B (hbyB.below hq (Nat.le_refl _))
        rwa [hB2, ← hu, ← hy] at this)
      have HFR : Hid (Calls Try.prog 49 #[.int .u64 (ep : Int), .int .u64 (nx : Int), .slice (some ⟨g, 24, none⟩) ln c2] wr.drew fun e w5 => ∃ a5 c5, e = .returned (.slice a5 u c5) ∧ (convert 50 9 (.slice a5 u c5)).run Try.prog w5 = .ok (.string z) w5 ∧ (convert 50 9 (.slice (some ⟨g, 0, none⟩) u cap)).run Try.prog w5 = .ok (.string y) w5 ∧ Below wr.heap.size wr w5) := (by
        have hfr := refFrame_any ep nx (some ⟨g, 24, none⟩) Pl c2 wr.drew hep hnx hbyP (by omega) (by intro e; cases e)
        rw [hPll] at hfr
        refine Calls.mono hfr ?_
        rintro e w5 ⟨v5, rfl, ho5, hb5⟩
        obtain ⟨a5, c5, rfl, hby5, _⟩ := ho5.open
        have hcv := convert_bytes w5 a5 c5 _ hby5
        rw [dFrame_length, hPll, ← hu, ← hz] at hcv
        rw [dFrame_length, hPll, ← hu]
        have hb5' : Below wr.heap.size wr w5 := (Below.refl _ _).drew.trans hb5
        exact ⟨a5, c5, rfl, hcv, HCY.out w5 hb5', hb5'⟩)
      have HUN : Hid (∀ w5, Below wr.heap.size wr w5 → Calls Try.prog 80 #[.slice (some ⟨g, 24, none⟩) ln c2] w5 fun e w6 => ∃ v6, e = .returned (.tuple #[v6, .bool (uOk Pl)]) ∧ OwnS w6 ws.heap.size v6 (uL Pl) ∧ Below ws.heap.size ws w6) := (by
        intro w5 hb5
        have := refUnpack_any (some ⟨g, 24, none⟩) Pl c2 w5 (by omega) (by omega) (hbyP.below hb5 (Nat.le_refl _))
        rw [hPll] at this
        refine Calls.mono this ?_
        rintro e w6 ⟨v6, rfl, ho6, hb6⟩
        have hz5 := hb5.size
        have hz0 := hbw.size
        refine ⟨v6, rfl, owns_base ho6 (fun j hj => by have := (owns_lt ho6 j hj).1; omega), (hbw.trans (hb5.mono hz0)).trans (hb6.mono (by omega))⟩)
      have hzy : (z = y) ↔ dFrame ep nx Pl = B := by rw [hz, hy]; exact ba_eq _ _
      have hm2 := HLG.out wr hbw
      have c3 := cell_blk hm2 3
      have c4 := cell_blk hm2 4
      simp only [List.getElem?_toArray] at c3 c4
      have d3 : wr.drew.cell? ⟨m, 3, none⟩ = some (.int .u64 (ep : Int)) := c3
      have d4 : wr.drew.cell? ⟨m, 4, none⟩ = some (.int .u64 (nx : Int)) := c4
      have y1 := HCY.out wr (Below.refl _ _)
      have y2 := HCY.out wr.drew (Below.refl _ _).drew
      have hnlt : ¬ (k : Int) < (k : Int) := by omega
      have HBW : Hid (Below ws.heap.size ws wr) := hbw
      have hlnb : (24 : Int) + (ln : Int) ≤ 9223372036854775807 := by omega
      have HX2 : Hid (X = if dFrame ep nx Pl = B then unp (Pl.length + 1) Pl else none) := (by rw [hPl]; exact HX.out)
      clear hown hby hbyB hbyP hB1 hB2 hPl hy hz HX HBB HSL HRD HLG HCY hm2 hbw hu hc2 htk hlt
      by_cases hq : z = y
      · have HX3 : Hid (X = unp (Pl.length + 1) Pl) := (show _ = _ from by rw [HX2.out, if_pos (hzy.1 hq)])
        rw [hq] at HFR
        clear hq hzy HX2
        go_wp2
        go_region_with (go_at_call 49; (with_reducible refine Calls.mono HFR.out ?_); rintro e w5 ⟨a5, c5, rfl, hcv5, hcy5, hb5⟩)
        all_goals
          (have hun := HUN.out w5 hb5
           obtain ⟨okB, hokB⟩ : ∃ okB, okB = uOk Pl := ⟨_, rfl⟩
           rw [← hokB] at hun
           have HOK : Hid (okB = uOk Pl) := hokB
           clear hokB hcv5 hcy5 hb5 y1 y2 c3 c4 d3 d4
           cases okB with
           | true =>
             go_wp2_with (go_at_call 80; refine Calls.mono hun ?_; rintro e w6 ⟨v6, rfl, ho6, hb6⟩)
             (try simp only [Exit.inBlock, Exit.then])
             refine bodyPost_ret (v := .tuple #[v6, .int .i64 (k : Int), .int .i64 0]) ?_ rfl ⟨v6, ?_, ?_, hb6⟩
             · simp [results, Try.f45]
             · rw [HSV.out, HX3.out, show (unp (Pl.length + 1) Pl).isSome = true from HOK.out.symm]; rfl
             · rw [HX3.out]; exact ho6
           | false =>
             go_wp2_with (go_at_call 80; refine Calls.mono hun ?_; rintro e w6 ⟨v6, rfl, ho6, hb6⟩)
             (try simp only [Exit.inBlock, Exit.then])
             have hnone : unp (Pl.length + 1) Pl = none := by
               have := HOK.out
               rw [uOk] at this
               exact Option.isSome_eq_false_iff.1 this.symm |> Option.isNone_iff_eq_none.1
             refine bodyPost_ret (v := .tuple #[.slice none 0 0, .int .i64 0, .int .i64 0]) ?_ rfl ⟨.slice none 0 0, ?_, ?_, hb6⟩
             · simp [results, Try.f45]
             · rw [HSV.out, HX3.out, hnone]; rfl
             · rw [HX3.out, hnone]; exact ownS_nil _ _ rfl)
      · have HX3 : Hid (X = none) := (show _ = _ from by rw [HX2.out, if_neg (fun e => hq (hzy.2 e))])
        have hzb : (z.toList == y.toList) = false := by
          rw [str_eq]; exact decide_eq_false hq
        have hzn : ¬ z.toList = y.toList := by
          rw [beq_eq_false_iff_ne] at hzb; exact hzb
        clear hq hzy HX2
        go_wp2
        go_region_with (go_at_call 49; (with_reducible refine Calls.mono HFR.out ?_); rintro e w5 ⟨a5, c5, rfl, hcv5, hcy5, hb5⟩)
        all_goals
          (go_wp2
           (try simp only [Exit.inBlock, Exit.then])
           refine bodyPost_ret (v := .tuple #[.slice none 0 0, .int .i64 0, .int .i64 0]) ?_ rfl ⟨.slice none 0 0, ?_, ?_, HBW.out.trans (hb5.mono HBW.out.size)⟩
           · simp [results, Try.f45]
           · rw [HSV.out, HX3.out]; rfl
           · rw [HX3.out]; exact ownS_nil _ _ rfl)
end Go.Proofs.Ytecljiefljgfmaa
